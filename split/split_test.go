package split

import (
	"math"
	"math/rand"
	"slices"
	"testing"

	"ropewalk/api"
)

// usual are shares that may be: 3334 bytes a path.
func usual() api.Shares { return api.Shares{Buffer: 10000, Paths: 3, MTU: 1500} }

// goodShares may be, at their edges.
func goodShares() []api.Shares {
	list := []api.Shares{usual()}
	for _, buffer := range []int{1, 2, 7, 8, 9, 15, 16, 17, 1500, 12000, 1 << 20, maxWindow - 1, maxWindow} {
		for _, paths := range []int{1, 2, 3, 7, 8} {
			for _, mtu := range []int{100, 101, 1499, 1500} {
				list = append(list, api.Shares{Buffer: buffer, Paths: paths, MTU: mtu})
			}
		}
	}
	return list
}

func badBuffers() []int {
	return []int{math.MinInt, -maxWindow, -1, 0, 1<<30 + 1, 1<<32 + 1, math.MaxInt}
}

func badPaths() []int { return []int{math.MinInt, -8, -1, 0, 9, 10, 1<<32 + 3, math.MaxInt} }

func badMTUs() []int { return []int{math.MinInt, -1500, -1, 0, 99, 1501, 1<<32 + 1500, math.MaxInt} }

// badShares may not be: for one reason, for two, for three.
func badShares() []api.Shares {
	var list []api.Shares
	for _, buffer := range append(badBuffers(), 10000) {
		for _, paths := range append(badPaths(), 3) {
			for _, mtu := range append(badMTUs(), 1500) {
				if s := (api.Shares{Buffer: buffer, Paths: paths, MTU: mtu}); s != usual() {
					list = append(list, s)
				}
			}
		}
	}
	return append(list, api.Shares{})
}

// badNumbers are none that a path may have outstanding.
func badNumbers() []int { return []int{math.MinInt, -1 << 32, -1, 1<<30 + 1, 1 << 32, math.MaxInt} }

// badOuts are no Outstanding of shares that may be: too few, too many, and one that may not be in each place.
func badOuts(s api.Shares) [][]int {
	list := [][]int{nil, {}, make([]int, s.Paths-1), make([]int, s.Paths+1), make([]int, 100)}
	for _, n := range badNumbers() {
		for at := range s.Paths {
			out := make([]int, s.Paths)
			out[at] = n
			list = append(list, out)
		}
		list = append(list, slices.Repeat([]int{n}, s.Paths), append(make([]int, s.Paths), n))
	}
	return list
}

// filled is as many numbers as there are paths, all the same.
func filled(s api.Shares, n int) []int { return slices.Repeat([]int{n}, s.Paths) }

// none holds that an error is told, and no list.
func none(t *testing.T, told []int, e, want api.Errno) {
	t.Helper()
	if len(told) != 0 || e != want {
		t.Errorf("%v, %d, want none, %d", told, e, want)
	}
}

// tells holds a list that was told without an error against one.
func tells(t *testing.T, told []int, e api.Errno, want ...int) {
	t.Helper()
	if !slices.Equal(told, want) || e != 0 {
		t.Errorf("%v, %d, want %v", told, e, want)
	}
}

// says holds what May said against what it is to say.
func says(t *testing.T, ok bool, e api.Errno, want bool, wantE api.Errno) {
	t.Helper()
	if ok != want || e != wantE {
		t.Errorf("%v, %d, want %v, %d", ok, e, want, wantE)
	}
}

func TestNumbersOfErrorsAndLimits(t *testing.T) {
	if api.OK != 0 || api.ErrArg != 1 || api.ErrRange != 5 || api.ErrShares != 140 || api.ErrFull != 141 {
		t.Error("another number of an error")
	}
	if api.MaxPaths != maxPaths || api.MaxWindow != maxWindow || maxWindow != 1<<30 || api.LeastMTU != leastMTU || api.MostMTU != mostMTU {
		t.Error("another limit")
	}
}

func TestExample(t *testing.T) {
	s := usual()
	if n, e := Share(s); n != 3334 || e != 0 {
		t.Errorf("%d, %d", n, e)
	}
	ok, e := May(s, 1, 0, 3333, 0)
	says(t, ok, e, true, 0)
	told, e := Put(s, 1, 1500, 0, 3333, 0)
	tells(t, told, e, 0, 4833, 0)
	ok, e = May(s, 1, told...)
	says(t, ok, e, false, 0)
	told, e = Left(s, 6000, 0, 2500, 0)
	tells(t, told, e, 2000, 0, 2000)
}

// P14.1

func TestCheckOfShares(t *testing.T) {
	try := func(s api.Shares, want api.Errno) {
		t.Helper()
		for _, out := range [][]int{nil, {0}, {0, 0, 0}, {1, 2, -3}, make([]int, 8), make([]int, 9)} {
			if e := check(t, s, out); want != 0 && e != want {
				t.Errorf("Check(%+v, %v) = %d, want %d", s, out, e, want)
			}
		}
		if want == 0 {
			if e := check(t, s, filled(s, 5)); e != 0 {
				t.Errorf("Check(%+v) = %d", s, e)
			}
		}
		if n, e := share(t, s); e != want || e != 0 && n != 0 {
			t.Errorf("Share(%+v) = %d, %d, want %d", s, n, e, want)
		}
	}
	for _, c := range []struct {
		n    int
		want api.Errno
	}{{math.MinInt, 140}, {-1, 140}, {0, 140}, {1, 0}, {2, 0}, {1<<30 - 1, 0}, {1 << 30, 0}, {1<<30 + 1, 140}, {1<<32 + 1, 140}, {math.MaxInt, 140}} {
		try(api.Shares{Buffer: c.n, Paths: 3, MTU: 1500}, c.want)
	}
	for _, c := range []struct {
		n    int
		want api.Errno
	}{{math.MinInt, 140}, {-1, 140}, {0, 140}, {1, 0}, {2, 0}, {7, 0}, {8, 0}, {9, 140}, {1<<32 + 1, 140}, {math.MaxInt, 140}} {
		try(api.Shares{Buffer: 10000, Paths: c.n, MTU: 1500}, c.want)
	}
	for _, c := range []struct {
		n    int
		want api.Errno
	}{{math.MinInt, 140}, {-1, 140}, {0, 140}, {99, 140}, {100, 0}, {101, 0}, {1499, 0}, {1500, 0}, {1501, 140}, {1<<32 + 1500, 140}, {math.MaxInt, 140}} {
		try(api.Shares{Buffer: 10000, Paths: 3, MTU: c.n}, c.want)
	}
	for _, s := range badShares() {
		try(s, 140)
	}
	for _, s := range goodShares() {
		try(s, 0)
	}
}

// Shares that may not be are told ahead of every other thing that may not be.
func TestBadSharesAreToldFirst(t *testing.T) {
	for _, s := range badShares() {
		for _, out := range [][]int{nil, {}, {0, 0, 0}, {9999, 9999, 9999}, {0, -1, 0}, {0, 0}, make([]int, 9)} {
			for _, n := range []int{math.MinInt, -1, 0, 1, 3, 1501, maxWindow + 1, math.MaxInt} {
				ok, e := may(t, s, n, out)
				says(t, ok, e, false, 140)
				told, e := left(t, s, n, out)
				none(t, told, e, 140)
				for _, path := range []int{-1, 0, 9} {
					told, e = put(t, s, path, n, out)
					none(t, told, e, 140)
				}
			}
		}
	}
}

func TestNoneHandedIn(t *testing.T) {
	for _, s := range append(goodShares(), usual()) {
		if e := Check(s); e != 1 {
			t.Errorf("Check(%+v) = %d", s, e)
		}
		ok, e := May(s, 0)
		says(t, ok, e, false, 1)
		told, e := Put(s, 0, 1)
		none(t, told, e, 1)
		told, e = Left(s, 1000)
		none(t, told, e, 1)
	}
	if e := Check(api.Shares{}); e != 140 {
		t.Errorf("%d", e)
	}
}

// What is no Outstanding is told ahead of a path, a size and a window that may not be.
func TestBadOutIsToldNext(t *testing.T) {
	for _, s := range goodShares() {
		for _, out := range badOuts(s) {
			if e := check(t, s, out); e != 1 {
				t.Errorf("Check(%+v, %v) = %d", s, out, e)
			}
			for _, n := range []int{-1, 0, 1, 1501, maxWindow + 1} {
				ok, e := may(t, s, n, out)
				says(t, ok, e, false, 1)
				told, e := left(t, s, n, out)
				none(t, told, e, 1)
				for _, path := range []int{-1, 0, s.Paths} {
					told, e = put(t, s, path, n, out)
					none(t, told, e, 1)
				}
			}
		}
	}
}

func TestGoodOut(t *testing.T) {
	for _, s := range goodShares() {
		for _, n := range []int{0, 1, maxWindow - 1, maxWindow} {
			for at := range s.Paths {
				out := filled(s, 7)
				out[at] = n
				if e := check(t, s, out); e != 0 {
					t.Errorf("Check(%+v, %v) = %d", s, out, e)
				}
				if _, e := may(t, s, at, out); e != 0 {
					t.Errorf("May(%+v, %d, %v): %d", s, at, out, e)
				}
				if _, e := left(t, s, 5000, out); e != 0 {
					t.Errorf("Left(%+v, %v): %d", s, out, e)
				}
				if _, e := put(t, s, at, 1, out); e != 0 && e != 141 {
					t.Errorf("Put(%+v, %d, %v): %d", s, at, out, e)
				}
			}
			if e := check(t, s, filled(s, n)); e != 0 {
				t.Errorf("Check(%+v, %d each) = %d", s, n, e)
			}
		}
	}
}

func TestShare(t *testing.T) {
	for _, c := range []struct{ buffer, paths, want int }{
		{10000, 3, 3334},
		{9998, 3, 3333}, {9999, 3, 3333}, {10001, 3, 3334}, {10002, 3, 3334}, {10003, 3, 3335},
		{1, 1, 1}, {2, 1, 2}, {9999, 1, 9999}, {1<<30 - 1, 1, 1<<30 - 1}, {1 << 30, 1, 1 << 30},
		{1, 2, 1}, {2, 2, 1}, {3, 2, 2}, {4, 2, 2}, {5, 2, 3},
		{1, 8, 1}, {7, 8, 1}, {8, 8, 1}, {9, 8, 2}, {15, 8, 2}, {16, 8, 2}, {17, 8, 3},
		{8000, 8, 1000}, {7999, 8, 1000}, {7992, 8, 999}, {8001, 8, 1001},
		{1 << 30, 8, 1 << 27}, {1<<30 - 1, 8, 1 << 27}, {1<<30 - 7, 8, 1 << 27}, {1<<30 - 8, 8, 1<<27 - 1},
		{1 << 30, 3, 357913942}, {1<<30 - 1, 3, 357913941}, {1 << 30, 7, 153391690}, {1 << 30, 5, 214748365},
	} {
		for _, mtu := range []int{100, 1500} {
			s := api.Shares{Buffer: c.buffer, Paths: c.paths, MTU: mtu}
			if n, e := share(t, s); n != c.want || e != 0 {
				t.Errorf("Share(%+v) = %d, %d, want %d", s, n, e, c.want)
			}
		}
	}
	for paths := 1; paths <= 8; paths++ {
		for part := 1; part < 200; part++ {
			for d, want := range map[int]int{-1: part, 0: part, 1: part + 1} {
				if paths == 1 {
					want = part + d
				}
				if part*paths+d < 1 {
					continue
				}
				if n, e := share(t, api.Shares{Buffer: part*paths + d, Paths: paths, MTU: 100}); n != want || e != 0 {
					t.Errorf("%d and %d over %d: %d, %d, want %d", part*paths, d, paths, n, e, want)
				}
			}
		}
	}
}

// P14.2

func TestPlaces(t *testing.T) {
	for _, s := range goodShares() {
		for _, out := range [][]int{filled(s, 0), filled(s, maxWindow)} {
			for _, path := range []int{math.MinInt, -s.Paths, -1, s.Paths, s.Paths + 1, 9, 1 << 32, math.MaxInt} {
				ok, e := may(t, s, path, out)
				says(t, ok, e, false, 5)
				for _, size := range []int{math.MinInt, -1, 0, 1, s.MTU, s.MTU + 1, math.MaxInt} {
					told, e := put(t, s, path, size, out)
					none(t, told, e, 5)
				}
			}
			for path := range s.Paths {
				ok, e := may(t, s, path, out)
				says(t, ok, e, out[path] == 0, 0)
			}
		}
	}
}

func TestMay(t *testing.T) {
	for _, s := range goodShares() {
		part, _ := share(t, s)
		for path := range s.Paths {
			for _, c := range []struct {
				n    int
				want bool
			}{{0, true}, {part - 1, true}, {part, false}, {min(part+1, maxWindow), false}, {maxWindow, false}} {
				out := filled(s, maxWindow)
				out[path] = c.n
				ok, e := may(t, s, path, out)
				says(t, ok, e, c.want, 0)
				out = filled(s, 0)
				out[path] = c.n
				ok, e = may(t, s, path, out)
				says(t, ok, e, c.want, 0)
			}
		}
	}
}

func TestPutOfSizes(t *testing.T) {
	for _, s := range goodShares() {
		part, _ := share(t, s)
		for _, path := range []int{0, s.Paths / 2, s.Paths - 1} {
			for _, size := range []int{math.MinInt, -1, 0, s.MTU + 1, 1 << 32, math.MaxInt} {
				for _, n := range []int{0, part - 1, part, maxWindow} { // ahead of a share that is used up
					told, e := put(t, s, path, size, filled(s, n))
					none(t, told, e, 5)
				}
			}
			for _, size := range []int{1, 2, s.MTU - 1, s.MTU} {
				for _, n := range []int{part, min(part+1, maxWindow), maxWindow} {
					told, e := put(t, s, path, size, filled(s, n))
					none(t, told, e, 141)
				}
				for _, n := range []int{0, part / 2, part - 1} {
					told, e := put(t, s, path, size, filled(s, n))
					want := filled(s, n)
					want[path] = n + size
					tells(t, told, e, want...)
				}
			}
		}
	}
}

func TestPut(t *testing.T) {
	s := usual()
	out := []int{100, 200, 300}
	told, e := put(t, s, 0, 7, out)
	tells(t, told, e, 107, 200, 300)
	told, e = put(t, s, 1, 7, out)
	tells(t, told, e, 100, 207, 300)
	told, e = put(t, s, 2, 7, out)
	tells(t, told, e, 100, 200, 307)
	told, e = put(t, s, 2, 1500, []int{3334, maxWindow, 3333})
	tells(t, told, e, 3334, maxWindow, 4833)
	told, e = put(t, s, 0, 1500, []int{3334, 0, 0})
	none(t, told, e, 141)
	told, e = put(t, s, 1, 1501, []int{0, 3334, 0})
	none(t, told, e, 5)
	told, e = put(t, s, 3, 0, []int{3334, 3334, 3334})
	none(t, told, e, 5)
	told, e = put(t, api.Shares{Buffer: 1, Paths: 8, MTU: 100}, 7, 100, make([]int, 8))
	tells(t, told, e, 0, 0, 0, 0, 0, 0, 0, 100)
	// What is put is told whole, though it is above what may be handed in again.
	great := api.Shares{Buffer: maxWindow, Paths: 1, MTU: 1500}
	told, e = put(t, great, 0, 1, []int{maxWindow - 1})
	tells(t, told, e, maxWindow)
	told, e = put(t, great, 0, 1500, []int{maxWindow - 1})
	tells(t, told, e, maxWindow+1499)
	told, e = put(t, great, 0, 1, told)
	none(t, told, e, 1)
	told, e = put(t, great, 0, 1, []int{maxWindow})
	none(t, told, e, 141)
}

// P14.3

func TestLeftRefuses(t *testing.T) {
	for _, s := range goodShares() {
		for _, n := range []int{0, 5, maxWindow} {
			for _, window := range []int{math.MinInt, -maxWindow, -1, 1<<30 + 1, 1 << 32, math.MaxInt} {
				told, e := left(t, s, window, filled(s, n))
				none(t, told, e, 5)
			}
			for _, window := range []int{0, 1, 1<<30 - 1, 1 << 30} {
				if told, e := left(t, s, window, filled(s, n)); e != 0 || len(told) != s.Paths {
					t.Errorf("Left(%+v, %d) = %v, %d", s, window, told, e)
				}
			}
		}
	}
}

func TestLeft(t *testing.T) {
	for _, c := range []struct {
		window    int
		out, want []int
	}{
		{6000, []int{0, 2500, 0}, []int{2000, 0, 2000}},
		{6000, []int{1999, 2000, 2001}, []int{1, 0, 0}},
		{6001, []int{0, 2000, 2001}, []int{2001, 1, 0}}, // a rest
		{6002, []int{0, 2000, 2001}, []int{2001, 1, 0}},
		{6003, []int{0, 2000, 2001}, []int{2001, 1, 0}},
		{6004, []int{0, 2000, 2001}, []int{2002, 2, 1}},
		{0, []int{0, 0, 0}, []int{0, 0, 0}},
		{0, []int{1, 3333, maxWindow}, []int{0, 0, 0}},
		{1, []int{0, 1, 2}, []int{1, 0, 0}},
		{3, []int{0, 1, 2}, []int{1, 0, 0}},
		{4, []int{0, 1, 2}, []int{2, 1, 0}},
		{9999, []int{0, 3332, 3333}, []int{3333, 1, 0}}, // below Buffer, and the lesser share
		{10000, []int{0, 3333, 3334}, []int{3334, 1, 0}},
		{10001, []int{0, 3333, 3334}, []int{3334, 1, 0}},
		{10003, []int{3333, 3334, 3335}, []int{1, 0, 0}}, // the buffer's share is the lesser one
		{maxWindow, []int{3333, 3334, 3335}, []int{1, 0, 0}},
		{maxWindow, []int{0, 5, maxWindow}, []int{3334, 3329, 0}},
	} {
		told, e := left(t, usual(), c.window, c.out)
		tells(t, told, e, c.want...)
	}
	one := api.Shares{Buffer: maxWindow, Paths: 1, MTU: 100}
	told, e := left(t, one, maxWindow, []int{0})
	tells(t, told, e, maxWindow)
	told, e = left(t, one, maxWindow, []int{maxWindow - 1})
	tells(t, told, e, 1)
	told, e = left(t, one, 77, []int{7})
	tells(t, told, e, 70)
	told, e = left(t, api.Shares{Buffer: 1, Paths: 8, MTU: 100}, maxWindow, []int{0, 1, 0, 1, 0, 2, maxWindow, 0})
	tells(t, told, e, 1, 0, 1, 0, 1, 0, 0, 1)
}

func TestLeftAtEdges(t *testing.T) {
	for _, s := range goodShares() {
		for _, window := range []int{0, 1, s.Buffer - 1, s.Buffer, min(s.Buffer+1, maxWindow), min(s.Buffer+s.Paths, maxWindow), maxWindow} {
			shares := []int{s.Buffer/s.Paths + 1, s.Buffer / s.Paths, window/s.Paths + 1, window / s.Paths}
			for _, part := range shares {
				for d := -1; d <= 1; d++ {
					told, e := left(t, s, window, filled(s, min(maxWindow, max(0, part+d))))
					if e != 0 || len(told) != s.Paths || slices.Min(told) < 0 {
						t.Errorf("Left(%+v, %d) = %v, %d", s, window, told, e)
					}
				}
			}
			told, e := left(t, s, 0, filled(s, 0))
			tells(t, told, e, make([]int, s.Paths)...)
		}
	}
}

// P14.4

func TestTotal(t *testing.T) {
	for _, c := range []struct {
		out  []int
		want int
	}{
		{nil, 0}, {[]int{}, 0}, {[]int{0}, 0}, {[]int{7}, 7}, {[]int{1, 2, 3}, 6}, {[]int{maxWindow}, 1 << 30},
		{[]int{1, 20, 300, 4000, 50000, 600000, 7000000, 80000000}, 87654321},
		{make([]int, 8), 0},
		{slices.Repeat([]int{maxWindow}, 8), 1 << 33},
		{slices.Repeat([]int{maxWindow}, 7), 7 << 30},
	} {
		if n, e := total(t, c.out); n != c.want || e != 0 {
			t.Errorf("Total(%v) = %d, %d, want %d", c.out, n, e, c.want)
		}
	}
	if n, e := Total(); n != 0 || e != 0 {
		t.Errorf("%d, %d", n, e)
	}
	for count := 1; count <= 9; count++ {
		for at := range count {
			for _, n := range []int{0, 1, maxWindow} {
				out := slices.Repeat([]int{5}, count)
				out[at] = n
				sum, e := total(t, out)
				if count <= 8 && (e != 0 || sum != 5*(count-1)+n) || count > 8 && (e != 1 || sum != 0) {
					t.Errorf("Total(%v) = %d, %d", out, sum, e)
				}
			}
			for _, n := range badNumbers() {
				out := slices.Repeat([]int{5}, count)
				out[at] = n
				if sum, e := total(t, out); e != 1 || sum != 0 {
					t.Errorf("Total(%v) = %d, %d", out, sum, e)
				}
			}
		}
	}
	for _, count := range []int{9, 10, 100} {
		if sum, e := total(t, make([]int, count)); e != 1 || sum != 0 {
			t.Errorf("Total of %d = %d, %d", count, sum, e)
		}
	}
}

// What is told is the caller's own.

func TestToldIsTheCallers(t *testing.T) {
	s := usual()
	for _, call := range []func(out []int) ([]int, api.Errno){
		func(out []int) ([]int, api.Errno) { return Put(s, 1, 9, out...) },
		func(out []int) ([]int, api.Errno) { return Left(s, 6000, out...) },
		func(out []int) ([]int, api.Errno) { return Left(s, 0, out...) },
	} {
		room := []int{10, 20, 30, 40, 50}
		told, e := call(room[:3:5])
		other, otherE := call(room[:3:5])
		if e != 0 || otherE != 0 || !slices.Equal(told, other) {
			t.Fatalf("%v, %d, then %v, %d", told, e, other, otherE)
		}
		want := slices.Clone(other)
		for i := range told {
			told[i] = -7
		}
		_ = append(told, -8)
		if !slices.Equal(room, []int{10, 20, 30, 40, 50}) || !slices.Equal(other, want) {
			t.Errorf("%v, %v, want %v", room, other, want)
		}
		clear(room)
		if !slices.Equal(other, want) {
			t.Errorf("%v, want %v", other, want)
		}
	}
}

// All calls, at many drawn shares and numbers, those that may not be among them.

func TestManyCalls(t *testing.T) {
	r := rand.New(rand.NewSource(14))
	for range 30000 {
		s := someShares(r)
		window := some(r, 0, 1<<r.Intn(31))
		out := someOut(r, s, window/s.Paths, window)
		path, size := r.Intn(s.Paths), some(r, 1, s.MTU)
		if e := check(t, s, out); e != 0 {
			t.Fatalf("Check(%+v, %v) = %d", s, out, e)
		}
		share(t, s)
		may(t, s, path, out)
		put(t, s, path, size, out)
		left(t, s, window, out)
		total(t, out)
	}
}

func TestManyWrongCalls(t *testing.T) {
	r := rand.New(rand.NewSource(41))
	odd := func(n int, bad []int) int { // one that may not be, now and then
		if r.Intn(5) == 0 {
			return bad[r.Intn(len(bad))]
		}
		return n
	}
	for range 30000 {
		was := someShares(r)
		out := someOut(r, was)
		at := r.Intn(len(out))
		out[at] = odd(out[at], badNumbers())
		switch r.Intn(8) {
		case 0:
			out = out[1:]
		case 1:
			out = append(out, 3)
		}
		s := api.Shares{Buffer: odd(was.Buffer, badBuffers()), Paths: odd(was.Paths, badPaths()), MTU: odd(was.MTU, badMTUs())}
		path := odd(r.Intn(was.Paths), []int{math.MinInt, -1, was.Paths, math.MaxInt})
		size := odd(some(r, 1, was.MTU), []int{math.MinInt, -1, 0, was.MTU + 1, math.MaxInt})
		check(t, s, out)
		share(t, s)
		may(t, s, path, out)
		put(t, s, path, size, out)
		left(t, s, odd(some(r, 0, maxWindow), badNumbers()), out)
		total(t, out)
	}
}

// P14.5: what is above MaxWindow is no Outstanding any more, and nothing is put on it.

func TestBounded(t *testing.T) {
	for seed := range int64(300) {
		r := rand.New(rand.NewSource(seed))
		s := someShares(r)
		if r.Intn(2) == 0 { // small ones are filled soon
			s.Buffer = min(s.Buffer, some(r, 1, 20000))
		}
		part, e := share(t, s)
		if e != 0 {
			t.Fatalf("Share(%+v) = %d", s, e)
		}
		most := part + s.MTU // the first one that is too many
		out := make([]int, s.Paths)
		for i := range out {
			out[i] = min(maxWindow, some(r, 0, most-1))
		}
		for range 200 {
			path, size := r.Intn(s.Paths), some(r, 1, s.MTU)
			told, e := put(t, s, path, size, out)
			switch {
			case e == 0:
				out = told
			case e == 141 && out[path] >= part, e == 1 && slices.Max(out) > maxWindow:
			default:
				t.Fatalf("seed %d: Put(%+v, %d, %d, %v) = %d", seed, s, path, size, out, e)
			}
			if slices.Max(out) >= most {
				t.Fatalf("seed %d: %v of %+v, share %d", seed, out, s, part)
			}
		}
	}
}

// A path that is filled by the greatest chunks comes to one below share and MTU, and no further.
func TestBoundIsReached(t *testing.T) {
	for _, s := range goodShares() {
		part, _ := share(t, s)
		for path := range s.Paths {
			out := filled(s, 0)
			out[path] = part - 1
			told, e := put(t, s, path, s.MTU, out)
			if e != 0 || told[path] != part+s.MTU-1 {
				t.Fatalf("Put(%+v, %d, %v) = %v, %d", s, path, out, told, e)
			}
			if again, e := put(t, s, path, 1, told); e != 141 && told[path] <= maxWindow || e == 0 {
				t.Errorf("Put(%+v, %d, %v) = %v, %d", s, path, told, again, e)
			}
		}
	}
}

// P14.6

func TestOnePathIsNotTheOthers(t *testing.T) {
	r := rand.New(rand.NewSource(6))
	for range 10000 {
		s := someShares(r)
		out := someOut(r, s)
		path := r.Intn(s.Paths)
		want, e := may(t, s, path, out)
		if e != 0 {
			t.Fatalf("May(%+v, %d, %v): %d", s, path, out, e)
		}
		for _, others := range [][]int{filled(s, 0), filled(s, maxWindow), someOut(r, s)} {
			others[path] = out[path]
			ok, e := may(t, s, path, others)
			says(t, ok, e, want, 0)
		}
		part, _ := share(t, s)
		full := filled(s, maxWindow)
		full[path] = max(0, part-50*s.MTU) // a great share is not filled from its beginning on
		for full[path] < part {            // all of it is the path's own, with all others filled
			size := min(s.MTU, part-full[path])
			told, e := Put(s, path, size, full...)
			if e != 0 || told[path] != full[path]+size {
				t.Fatalf("Put(%+v, %d, %d, %v) = %v, %d", s, path, size, full, told, e)
			}
			full = told
		}
		if full[path] != part {
			t.Fatalf("%d of %d bytes of %+v", full[path], part, s)
		}
		ok, e := may(t, s, path, full)
		says(t, ok, e, false, 0)
	}
}

// P14.7

func TestTheWhole(t *testing.T) {
	r := rand.New(rand.NewSource(7))
	list := goodShares()
	for range 50000 {
		list = append(list, someShares(r))
	}
	for _, s := range list {
		part, e := Share(s)
		if e != 0 || part*s.Paths < s.Buffer || part*s.Paths >= s.Buffer+s.Paths {
			t.Fatalf("Share(%+v) = %d, %d", s, part, e)
		}
	}
}

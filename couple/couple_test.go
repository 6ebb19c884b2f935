package couple

import (
	"math"
	"math/big"
	"math/rand"
	"slices"
	"testing"

	"ropewalk/api"
)

// usual are flows that may be, so many of them.
func usual(n int) []api.Flow {
	list := make([]api.Flow, n)
	for i := range list {
		list[i] = api.Flow{Cwnd: 4000 + i, Thr: 3000 + 1000*i}
	}
	return list
}

// like are flows that may be, with these thresholds.
func like(thresholds ...int) []api.Flow {
	var list []api.Flow
	for _, n := range thresholds {
		list = append(list, api.Flow{Cwnd: 5000, Thr: n})
	}
	return list
}

// pairs are flows: of each a window and a threshold.
func pairs(numbers ...int) []api.Flow {
	var list []api.Flow
	for i := 0; i+1 < len(numbers); i += 2 {
		list = append(list, api.Flow{Cwnd: numbers[i], Thr: numbers[i+1]})
	}
	return list
}

// edges are numbers that many calls are tried with.
func edges() []int {
	return []int{math.MinInt, -maxWindow, -1, 0, 1, maxWindow - 1, maxWindow, maxWindow + 1, 1 << 32, math.MaxInt}
}

// badFlows may not be.
func badFlows() [][]api.Flow {
	list := [][]api.Flow{nil, {}, usual(9), usual(100)}
	for _, n := range []int{math.MinInt, -1, 0, maxWindow + 1, 1<<32 + 1, math.MaxInt} {
		for _, at := range []int{0, 3, 7} {
			l := usual(8)
			l[at].Cwnd = n
			list = append(list, l)
			l = usual(8)
			l[at].Thr = n
			list = append(list, l)
		}
		list = append(list, []api.Flow{{Cwnd: n, Thr: 1}}, []api.Flow{{Cwnd: 1, Thr: n}})
	}
	return list
}

// goodFlows may be, at their edges.
func goodFlows() [][]api.Flow {
	list := [][]api.Flow{
		{{Cwnd: 20000, Thr: 3000}, {Cwnd: 10000, Thr: 1000}},
		{{Cwnd: 20000, Thr: 5000}, {Cwnd: 10000, Thr: 5000}},
		{{Cwnd: 1, Thr: maxWindow}, {Cwnd: maxWindow, Thr: 1}},
		like(1, maxWindow),
		like(maxWindow, 1, maxWindow),
		like(1, 1, 1, maxWindow, 1, 1, 1, 1),
		like(7, 5, 3),
	}
	for _, n := range []int{1, 2, 3, 8} {
		list = append(list, usual(n))
		for _, cwnd := range []int{1, 2, 1500, maxWindow - 1, maxWindow} {
			for _, threshold := range []int{1, 2, 1500, maxWindow - 1, maxWindow} {
				l := usual(n)
				for i := range l {
					l[i] = api.Flow{Cwnd: cwnd, Thr: threshold}
				}
				list = append(list, l)
			}
		}
	}
	return list
}

func goodMTUs() []int { return []int{1, 2, 1499, 1500, 65535, 65536} }

func badMTUs() []int { return []int{math.MinInt, -1, 0, 65537, 1 << 32, math.MaxInt} }

// sum of all thresholds.
func sum(flows []api.Flow) int {
	n := 0
	for _, f := range flows {
		n += f.Thr
	}
	return n
}

// tells holds a number that was told without an error against one.
func tells(t *testing.T, n int, e api.Errno, want int) {
	t.Helper()
	if n != want || e != 0 {
		t.Errorf("%d, %d, want %d", n, e, want)
	}
}

// refuses holds that an error is told, and 0.
func refuses(t *testing.T, n int, e, want api.Errno) {
	t.Helper()
	if n != 0 || e != want {
		t.Errorf("%d, %d, want 0, %d", n, e, want)
	}
}

// grows holds flows that were told without an error against these windows.
func grows(t *testing.T, told []api.Flow, e api.Errno, want ...int) {
	t.Helper()
	var are []int
	for _, f := range told {
		are = append(are, f.Cwnd)
	}
	if !slices.Equal(are, want) || e != 0 {
		t.Errorf("%v, %d, want windows %v", told, e, want)
	}
}

func TestNumbersOfErrorsAndLimits(t *testing.T) {
	if api.OK != 0 || api.ErrArg != 1 || api.ErrRange != 5 || api.ErrFlow != 130 || api.MaxPaths != maxPaths || api.MaxWindow != maxWindow || maxWindow != 1<<30 {
		t.Error("another number")
	}
}

func TestExamples(t *testing.T) {
	l := []api.Flow{{Cwnd: 4000, Thr: 3000}, {Cwnd: 4000, Thr: 1000}}
	n, e := Share(l, 0, 1500)
	tells(t, n, e, 1125)
	n, e = Share(l, 1, 1500)
	tells(t, n, e, 375)
	n, e = Slow(l, 0, 500, 1500)
	tells(t, n, e, 375)
	n, e = Avoid(l[:1], 0, 1500)
	tells(t, n, e, 1500)
	n, e = Cut([]api.Flow{{Cwnd: 20000, Thr: 3000}, {Cwnd: 10000, Thr: 3000}}, 0, 1500)
	tells(t, n, e, 5000)
}

// P13.1

func TestCheckOfFlows(t *testing.T) {
	for _, c := range []struct {
		n    int
		want api.Errno
	}{{0, 130}, {1, 0}, {2, 0}, {7, 0}, {8, 0}, {9, 130}, {10, 130}} {
		if e := check(t, usual(c.n), 1500); e != c.want {
			t.Errorf("%d flows: %d, want %d", c.n, e, c.want)
		}
	}
	if check(t, nil, 1500) != 130 || check(t, []api.Flow{}, 1500) != 130 {
		t.Error("no flows may be")
	}
	for _, c := range []struct {
		n    int
		want api.Errno
	}{{math.MinInt, 130}, {-1, 130}, {0, 130}, {1, 0}, {2, 0}, {1<<30 - 1, 0}, {1 << 30, 0}, {1<<30 + 1, 130}, {1<<32 + 1, 130}, {math.MaxInt, 130}} {
		for _, at := range []int{0, 1, 3, 7} {
			l := usual(8)
			l[at].Cwnd = c.n
			if e := check(t, l, 1500); e != c.want {
				t.Errorf("Cwnd %d at %d: %d, want %d", c.n, at, e, c.want)
			}
			l = usual(8)
			l[at].Thr = c.n
			if e := check(t, l, 1500); e != c.want {
				t.Errorf("Thr %d at %d: %d, want %d", c.n, at, e, c.want)
			}
		}
	}
}

func TestCheckOfMTU(t *testing.T) {
	for _, mtu := range goodMTUs() {
		if e := check(t, usual(3), mtu); e != 0 {
			t.Errorf("mtu %d: %d", mtu, e)
		}
		for _, l := range badFlows() {
			if e := check(t, l, mtu); e != 130 {
				t.Errorf("Check(%v, %d) = %d", l, mtu, e)
			}
		}
	}
	for _, mtu := range badMTUs() {
		if e := check(t, usual(3), mtu); e != 130 {
			t.Errorf("mtu %d: %d", mtu, e)
		}
		for _, l := range badFlows() {
			if e := check(t, l, mtu); e != 130 {
				t.Errorf("Check(%v, %d) = %d", l, mtu, e)
			}
		}
	}
}

// Flows that may not be are told ahead of every other number that may not be.
func TestBadFlowsAreToldFirst(t *testing.T) {
	for _, l := range badFlows() {
		for _, i := range []int{math.MinInt, -1, 0, len(l) - 1, len(l), math.MaxInt} {
			for _, n := range edges() {
				c, e := share(t, l, i, n)
				refuses(t, c, e, 130)
				c, e = slow(t, l, i, n, 1500)
				refuses(t, c, e, 130)
			}
			c, e := avoid(t, l, i, 1500)
			refuses(t, c, e, 130)
			c, e = cut(t, l, i, 1500)
			refuses(t, c, e, 130)
		}
	}
}

func TestBadMTUIsToldFirst(t *testing.T) {
	for _, mtu := range badMTUs() {
		for _, l := range append(badFlows(), usual(1), usual(3), usual(8)) {
			for _, i := range []int{-1, 0, len(l)} {
				for _, acked := range []int{-1, 5, maxWindow + 1} {
					n, e := slow(t, l, i, acked, mtu)
					refuses(t, n, e, 130)
				}
				n, e := avoid(t, l, i, mtu)
				refuses(t, n, e, 130)
				n, e = cut(t, l, i, mtu)
				refuses(t, n, e, 130)
			}
		}
	}
}

func TestPlaces(t *testing.T) {
	for _, count := range []int{1, 2, 3, 8} {
		l := usual(count)
		for _, i := range []int{math.MinInt, -1, count, count + 1, 8, 1 << 32, math.MaxInt} {
			n, e := share(t, l, i, 9)
			refuses(t, n, e, 5)
			n, e = slow(t, l, i, 9, 1500)
			refuses(t, n, e, 5)
			n, e = avoid(t, l, i, 1500)
			refuses(t, n, e, 5)
			n, e = cut(t, l, i, 1500)
			refuses(t, n, e, 5)
			for _, bad := range []int{math.MinInt, -1, maxWindow + 1, math.MaxInt} { // the place is told ahead of the number
				n, e = share(t, l, i, bad)
				refuses(t, n, e, 5)
				n, e = slow(t, l, i, bad, 1500)
				refuses(t, n, e, 5)
			}
		}
		for i := range l {
			for _, call := range []func() (int, api.Errno){
				func() (int, api.Errno) { return share(t, l, i, 9) },
				func() (int, api.Errno) { return slow(t, l, i, 9, 1500) },
				func() (int, api.Errno) { return avoid(t, l, i, 1500) },
				func() (int, api.Errno) { return cut(t, l, i, 1500) },
			} {
				if _, e := call(); e != 0 {
					t.Errorf("path %d of %d: %d", i, count, e)
				}
			}
		}
	}
}

func TestNumbersOfBytes(t *testing.T) {
	for _, c := range []struct {
		n    int
		want api.Errno
	}{{math.MinInt, 1}, {-1, 1}, {0, 0}, {1, 0}, {1 << 30, 0}, {1<<30 + 1, 1}, {1 << 32, 1}, {math.MaxInt, 1}} {
		for i := range 3 {
			n, e := share(t, usual(3), i, c.n)
			if e != c.want || e != 0 && n != 0 {
				t.Errorf("Share of %d: %d, %d, want %d", c.n, n, e, c.want)
			}
			n, e = slow(t, usual(3), i, c.n, 1500)
			if e != c.want || e != 0 && n != 0 {
				t.Errorf("Slow of %d: %d, %d, want %d", c.n, n, e, c.want)
			}
		}
	}
}

func TestShare(t *testing.T) {
	for _, c := range []struct {
		flows []api.Flow
		of    int
		want  []int
	}{
		{like(3000, 1000), 1500, []int{1125, 375}},
		{like(3000, 1000), 0, []int{0, 0}},
		{like(3000, 1000), 1, []int{0, 0}},
		{like(3000, 1000), 2, []int{1, 0}},
		{like(3000, 1000), 3999, []int{2999, 999}},
		{like(3000, 1000), 4000, []int{3000, 1000}},
		{like(3000, 1000), 4001, []int{3000, 1000}},
		{like(3000, 1000), maxWindow, []int{805306368, 268435456}},
		{like(9), maxWindow, []int{maxWindow}},
		{like(maxWindow), maxWindow, []int{maxWindow}},
		{like(1), 1, []int{1}},
		{like(1, maxWindow), maxWindow, []int{0, 1073741823}},
		{like(1, maxWindow), 1, []int{0, 0}},
		{like(1, 1), maxWindow, []int{536870912, 536870912}},
		{like(1, 1, 1), maxWindow, []int{357913941, 357913941, 357913941}},
		{like(maxWindow, maxWindow, maxWindow), maxWindow, []int{357913941, 357913941, 357913941}},
		{like(7, 5, 3), 10, []int{4, 3, 2}},
		{like(7, 5, 3), 14, []int{6, 4, 2}},
		{like(7, 5, 3), 15, []int{7, 5, 3}},
	} {
		for i, want := range c.want {
			n, e := share(t, c.flows, i, c.of)
			tells(t, n, e, want)
		}
	}
	for _, threshold := range []int{1, maxWindow} {
		l := slices.Repeat(like(threshold), 8)
		for i := range l {
			n, e := share(t, l, i, maxWindow)
			tells(t, n, e, 1<<27)
		}
	}
}

// Neither a window nor an MTU plays a part in a share.
func TestShareByThresholdsAlone(t *testing.T) {
	for _, cwnd := range []int{1, 3000, maxWindow} {
		n, e := share(t, []api.Flow{{Cwnd: cwnd, Thr: 3000}, {Cwnd: maxWindow + 1 - cwnd, Thr: 1000}}, 0, maxWindow)
		tells(t, n, e, 805306368)
	}
}

// P13.2

func TestSlow(t *testing.T) {
	for _, c := range []struct {
		flows         []api.Flow
		i, acked, mtu int
		want          int
	}{
		{like(3000, 1000), 0, 0, 1500, 0},
		{like(3000, 1000), 0, 500, 1500, 375},
		{like(3000, 1000), 1, 500, 1500, 125},
		{like(3000, 1000), 0, 1496, 1500, 1122},
		{like(3000, 1000), 0, 1499, 1500, 1124},
		{like(3000, 1000), 0, 1500, 1500, 1125},
		{like(3000, 1000), 0, 1501, 1500, 1125},
		{like(3000, 1000), 0, 1600, 1500, 1125},
		{like(3000, 1000), 0, maxWindow, 1500, 1125},
		{like(3000, 1000), 0, 1, 1, 0},
		{like(3000), 0, 1, 1, 1},
		{like(3000), 0, 2, 1, 1},
		{like(3000), 0, 0, 1, 0},
		{like(3000), 0, 65535, 65536, 65535},
		{like(3000), 0, 65536, 65536, 65536},
		{like(3000), 0, 65537, 65536, 65536},
		{like(maxWindow, maxWindow), 1, maxWindow, 65536, 32768},
		{like(1, maxWindow), 0, maxWindow, 65536, 0},
		{like(1, maxWindow), 1, maxWindow, 65536, 65535},
	} {
		n, e := slow(t, c.flows, c.i, c.acked, c.mtu)
		tells(t, n, e, c.want)
	}
}

func TestAvoid(t *testing.T) {
	for _, c := range []struct {
		flows  []api.Flow
		i, mtu int
		want   int
	}{
		{like(3000, 1000), 0, 1500, 1125},
		{like(3000, 1000), 1, 1500, 375},
		{like(3000, 1000), 0, 1, 0},
		{like(3000, 1000), 1, 3, 0},
		{like(3000, 1000), 1, 4, 1},
		{like(3000, 1000), 0, 65536, 49152},
		{like(3000), 0, 1500, 1500},
		{like(1), 0, 1, 1},
		{like(maxWindow), 0, 65536, 65536},
		{like(1, maxWindow), 0, 65536, 0},
		{like(1, maxWindow), 1, 65536, 65535},
		{slices.Repeat(like(maxWindow), 8), 7, 65536, 8192},
		{slices.Repeat(like(maxWindow), 8), 7, 7, 0},
	} {
		n, e := avoid(t, c.flows, c.i, c.mtu)
		tells(t, n, e, c.want)
	}
}

// P13.3

func TestCut(t *testing.T) {
	for _, c := range []struct {
		why    string
		flows  []api.Flow
		i, mtu int
		want   int
	}{
		{"what is left is the greatest", pairs(20000, 5000, 10000, 5000), 0, 1500, 5000},
		{"the share is", pairs(20000, 5000, 10000, 5000), 1, 1500, 3000},
		{"the share is, of thresholds apart", pairs(20000, 9000, 10000, 1000), 0, 1500, 5400},
		{"the MTU is", pairs(20000, 9000, 10000, 1000), 1, 1500, 1500},
		{"what is left and the share are alike", pairs(16000, 5000, 10000, 5000), 0, 1500, 3000},
		{"what is left is one less", pairs(15999, 5000, 10001, 5000), 0, 1500, 3000},
		{"what is left is one more", pairs(16002, 5000, 10000, 5000), 0, 1500, 3001},
		{"the share and the MTU are alike", pairs(10000, 1000, 20000, 3000), 0, 1500, 1500},
		{"what is left and the MTU are alike", pairs(13000, 1000, 10000, 9000), 0, 1500, 1500},
		{"half of an odd sum", pairs(20001, 5000, 10000, 5000), 0, 1500, 5001},
		{"half of the next even one", pairs(20002, 5000, 10000, 5000), 0, 1500, 5001},
		{"alone", pairs(20000, 5000), 0, 1500, 10000},
		{"alone, odd", pairs(20001, 5000), 0, 1500, 10001},
		{"alone and small", pairs(5000, 5000), 0, 1500, 6000},
		{"Cwnd 1", pairs(1, 1), 0, 1, 4},
		{"Cwnd 1 beside 2^30", pairs(1, 1, maxWindow, 1), 0, 1, 2},
		{"Cwnd 2^30 beside 1", pairs(maxWindow, 1, 1, 1), 0, 1, 536870912},
		{"Cwnd 2^30 alone", pairs(maxWindow, 1), 0, 65536, 536870912},
		{"MTU 65536", pairs(1, maxWindow, 1, maxWindow), 1, 65536, 131072},
		{"MTU 65536, a small threshold", pairs(1, 1, 1, maxWindow), 0, 65536, 65536},
		{"MTU 65536, a great threshold", pairs(1, 1, 1, maxWindow), 1, 65536, 262143},
		{"MTU 1, a share of 1", pairs(1, 1, 1, 1, 1, 1, 1, 1), 3, 1, 1},
		{"MTU 1, a share of 0", pairs(1, 1, 1, 1, 1, 1, 1, 1, 1, 1), 3, 1, 1},
		{"three paths", pairs(30000, 1000, 1000, 1000, 2000, 1000), 0, 1000, 13500},
	} {
		n, e := cut(t, c.flows, c.i, c.mtu)
		if n != c.want || e != 0 {
			t.Errorf("%s: %d, %d, want %d", c.why, n, e, c.want)
		}
	}
	l := slices.Repeat(pairs(maxWindow, maxWindow), 8)
	for i := range l {
		n, e := cut(t, l, i, 65536)
		tells(t, n, e, 65536)
	}
}

// P13.4

func TestGrownRefuses(t *testing.T) {
	none := func(told []api.Flow, e, want api.Errno) {
		t.Helper()
		if len(told) != 0 || e != want {
			t.Errorf("%v, %d, want none, %d", told, e, want)
		}
	}
	for _, l := range badFlows() {
		for _, acked := range [][]int{nil, make([]int, len(l)), make([]int, len(l)+1), {-1}} {
			for _, most := range []int{-1, 0, 1, maxWindow, maxWindow + 1} {
				told, e := grown(t, l, acked, 1500, most)
				none(told, e, 130)
			}
		}
	}
	for _, mtu := range badMTUs() {
		for _, acked := range [][]int{nil, {1, 2, 3}, {1, 2, -3}} {
			for _, most := range []int{0, 9000} {
				told, e := grown(t, usual(3), acked, mtu, most)
				none(told, e, 130)
			}
		}
	}
	for _, count := range []int{1, 3, 8} {
		l := usual(count)
		for _, acked := range [][]int{nil, {}, make([]int, count-1), make([]int, count+1), make([]int, 100)} {
			told, e := grown(t, l, acked, 1500, 9000)
			none(told, e, 1)
		}
		for at := range count {
			for _, n := range []int{math.MinInt, -1, maxWindow + 1, 1 << 32, math.MaxInt} {
				acked := slices.Repeat([]int{100}, count)
				acked[at] = n
				told, e := grown(t, l, acked, 1500, 9000)
				none(told, e, 1)
			}
		}
		for _, most := range []int{math.MinInt, -1, 0, maxWindow + 1, 1 << 32, math.MaxInt} {
			told, e := grown(t, l, slices.Repeat([]int{100}, count), 1500, most)
			none(told, e, 1)
		}
		for _, most := range []int{1, 2, maxWindow - 1, maxWindow} {
			for _, n := range []int{0, 1, maxWindow} {
				if _, e := grown(t, l, slices.Repeat([]int{n}, count), 1500, most); e != 0 {
					t.Errorf("%d flows, acked %d, most %d: %d", count, n, most, e)
				}
			}
		}
	}
}

func TestGrownAlone(t *testing.T) {
	for _, c := range []struct {
		cwnd, thr, acked, most int
		want                   int
	}{
		{5000, 8000, 0, 100000, 5000}, // slow start, MTU 1000
		{5000, 8000, 1, 100000, 5001},
		{5000, 8000, 999, 100000, 5999},
		{5000, 8000, 1000, 100000, 6000},
		{5000, 8000, 1001, 100000, 6000},
		{5000, 8000, maxWindow, 100000, 6000},
		{7999, 8000, 700, 100000, 8699},
		{8000, 8000, 700, 100000, 8700},
		{8001, 8000, 700, 100000, 8001}, // avoidance
		{8001, 8000, 0, 100000, 8001},
		{8001, 8000, 1, 100000, 8001},
		{8001, 8000, 8000, 100000, 8001},
		{8001, 8000, 8001, 100000, 9001},
		{8001, 8000, 8002, 100000, 9001},
		{8001, 8000, maxWindow, 100000, 9001},
		{5000, 8000, 700, 4999, 5000}, // one above most stays
		{5000, 8000, 700, 1, 5000},
		{5000, 8000, 700, 5000, 5000},
		{5000, 8000, 700, 5001, 5001},
		{5000, 8000, 700, 5699, 5699},
		{5000, 8000, 700, 5700, 5700},
		{5000, 8000, 700, 5701, 5700},
		{8001, 8000, 9000, 8000, 8001},
		{8001, 8000, 9000, 8001, 8001},
		{8001, 8000, 9000, 8002, 8002},
		{8001, 8000, 9000, 9000, 9000},
		{8001, 8000, 9000, 9001, 9001},
		{8001, 8000, 9000, 9002, 9001},
		{maxWindow, maxWindow, maxWindow, maxWindow, maxWindow},
		{maxWindow, 1, maxWindow, maxWindow, maxWindow},
		{maxWindow - 1, 1, maxWindow, maxWindow, maxWindow},
		{maxWindow, 1, maxWindow, 1, maxWindow},
		{1, 1, 1, 2, 2},
		{1, 1, 0, 1, 1},
	} {
		told, e := grown(t, []api.Flow{{Cwnd: c.cwnd, Thr: c.thr}}, []int{c.acked}, 1000, c.most)
		if e != 0 || len(told) != 1 || told[0] != (api.Flow{Cwnd: c.want, Thr: c.thr}) {
			t.Errorf("%+v: %v, %d", c, told, e)
		}
	}
}

func TestGrownSeveral(t *testing.T) {
	l := []api.Flow{{Cwnd: 3000, Thr: 9000}, {Cwnd: 3000, Thr: 9000}}
	told, e := grown(t, l, []int{1500, 1500}, 1500, 100000)
	grows(t, told, e, 3750, 3750)
	told, e = grown(t, l, []int{1500, 0}, 1500, 100000)
	grows(t, told, e, 3750, 3000)
	told, e = grown(t, l, []int{0, 0}, 1500, 100000)
	grows(t, told, e, 3000, 3000)
	told, e = grown(t, l, []int{600, 3}, 1500, 3200)
	grows(t, told, e, 3200, 3001)
	l = []api.Flow{{Cwnd: 3000, Thr: 6000}, {Cwnd: 6001, Thr: 6000}, {Cwnd: 9000, Thr: 3000}, {Cwnd: 50, Thr: 15000}}
	told, e = grown(t, l, []int{1000, 6001, 8999, maxWindow}, 1500, maxWindow)
	grows(t, told, e, 3200, 6301, 9000, 800)
	told, e = grown(t, l, []int{1000, 6000, 9000, 10}, 1500, 6100)
	grows(t, told, e, 3200, 6001, 9000, 55)
	told, e = grown(t, slices.Repeat([]api.Flow{{Cwnd: 1, Thr: maxWindow}}, 8), slices.Repeat([]int{maxWindow}, 8), 65536, maxWindow)
	grows(t, told, e, 8193, 8193, 8193, 8193, 8193, 8193, 8193, 8193)
	if !slices.Equal(l, pairs(3000, 6000, 6001, 6000, 9000, 3000, 50, 15000)) {
		t.Errorf("the flows are %v now", l)
	}
}

func TestGrownIsTheCallers(t *testing.T) {
	l, acked := usual(8), slices.Repeat([]int{100}, 8)
	told, e := Grown(l[:4:8], acked[:4:8], 1500, maxWindow)
	other, otherE := Grown(l[:4:8], acked[:4:8], 1500, maxWindow)
	if e != 0 || otherE != 0 || !slices.Equal(told, other) {
		t.Fatalf("%v, %d, then %v, %d", told, e, other, otherE)
	}
	want := slices.Clone(told)
	for i := range told {
		told[i] = api.Flow{Cwnd: -1, Thr: -1}
	}
	_ = append(told, api.Flow{Cwnd: -7, Thr: -7})
	if !slices.Equal(l, usual(8)) || !slices.Equal(acked, slices.Repeat([]int{100}, 8)) || !slices.Equal(other, want) {
		t.Errorf("%v, %v, %v", l, acked, other)
	}
	for i := range l {
		l[i], acked[i] = api.Flow{Cwnd: 9, Thr: 9}, 9
	}
	if !slices.Equal(other, want) {
		t.Errorf("%v, want %v", other, want)
	}
	same, e := Grown([]api.Flow{{Cwnd: 5, Thr: 5}}, []int{0}, 1, 1)
	if e != 0 || !slices.Equal(same, []api.Flow{{Cwnd: 5, Thr: 5}}) {
		t.Errorf("%v, %d", same, e)
	}
}

// What grows nothing is new memory too.
func TestUngrownIsTheCallers(t *testing.T) {
	l := usual(2)
	told, e := Grown(l, []int{0, 0}, 1500, maxWindow)
	if e != 0 || !slices.Equal(told, l) {
		t.Fatalf("%v, %d", told, e)
	}
	told[0].Cwnd, told[1].Thr = 77, 77
	if !slices.Equal(l, usual(2)) {
		t.Errorf("%v", l)
	}
}

// All calls, at all edges and at many drawn flows.

func TestEdges(t *testing.T) {
	for _, l := range goodFlows() {
		for _, mtu := range goodMTUs() {
			numbers := []int{0, 1, mtu - 1, mtu, mtu + 1, min(maxWindow, sum(l)-1), min(maxWindow, sum(l)), min(maxWindow, sum(l)+1), maxWindow - 1, maxWindow}
			for _, n := range numbers {
				for i := range l {
					all(t, l, i, n, mtu, slices.Repeat([]int{n}, len(l)), max(1, n))
				}
			}
		}
	}
}

func TestManyFlows(t *testing.T) {
	r := rand.New(rand.NewSource(13))
	for range 20000 {
		l, mtu := someFlows(r), some(r, 1, maxMTU)
		if e := check(t, l, mtu); e != 0 {
			t.Fatalf("Check(%v, %d) = %d", l, mtu, e)
		}
		acked := someAcked(r, l, mtu)
		i := r.Intn(len(l))
		all(t, l, i, acked[i], mtu, acked, someMost(r, l, mtu))
	}
}

func TestManyRuns(t *testing.T) {
	for seed := range int64(200) {
		r := rand.New(rand.NewSource(seed))
		l, mtu, most := someFlows(r), some(r, 1, 1<<r.Intn(17)), some(r, 1, maxWindow)
		for range 50 {
			told, e := grown(t, l, someAcked(r, l, mtu), mtu, most)
			if e != 0 {
				t.Fatalf("seed %d: %v, %d", seed, l, e)
			}
			l = told
			if r.Intn(4) == 0 {
				i := r.Intn(len(l))
				n, e := cut(t, l, i, mtu)
				if e != 0 {
					t.Fatalf("seed %d: Cut(%v, %d, %d) = %d", seed, l, i, mtu, e)
				}
				l[i] = api.Flow{Cwnd: n, Thr: n}
			}
		}
	}
}

// P13.5: none shrinks, and by the most that may be acknowledged all grow by one MTU together, or less.

func TestOneMTU(t *testing.T) {
	r := rand.New(rand.NewSource(5))
	for range 20000 {
		l, mtu := someFlows(r), some(r, 1, maxMTU)
		for _, acked := range [][]int{someAcked(r, l, mtu), slices.Repeat([]int{maxWindow}, len(l))} {
			told, e := Grown(l, acked, mtu, maxWindow)
			if e != 0 || len(told) != len(l) || gain(l, told).Cmp(whole(mtu)) > 0 {
				t.Fatalf("Grown(%v, %v, %d) = %v, %d", l, acked, mtu, told, e)
			}
			for i := range l {
				if told[i].Cwnd < l[i].Cwnd || told[i].Thr != l[i].Thr {
					t.Fatalf("Grown(%v, %v, %d) = %v", l, acked, mtu, told)
				}
			}
		}
	}
}

// P13.6

func TestAllAlike(t *testing.T) {
	r := rand.New(rand.NewSource(6))
	for range 20000 {
		l := someFlows(r)
		n := some(r, 0, 1<<r.Intn(31))
		parts := make([]int, len(l))
		together := new(big.Int)
		for i := range l {
			part, e := Share(l, i, n)
			if e != 0 || part < 0 {
				t.Fatalf("Share(%v, %d, %d) = %d, %d", l, i, n, part, e)
			}
			parts[i] = part
			together = plus(together, whole(part))
		}
		if below(whole(n), together) || !below(whole(n-len(l)), together) {
			t.Fatalf("all shares of %d are %v together, of %v", n, together, l)
		}
		for i := range l {
			for j := range i {
				if l[i].Thr == l[j].Thr && parts[i] != parts[j] || l[i].Thr > l[j].Thr && parts[i] < parts[j] {
					t.Fatalf("shares of %d are %v, of %v", n, parts, l)
				}
			}
		}
	}
}

// P13.7

func TestAlone(t *testing.T) {
	r := rand.New(rand.NewSource(7))
	for range 5000 {
		l := someFlows(r)[:1]
		n, mtu := some(r, 0, 1<<r.Intn(31)), some(r, 1, maxMTU)
		part, e := Share(l, 0, n)
		tells(t, part, e, n)
		part, e = Slow(l, 0, n, mtu)
		tells(t, part, e, min(n, mtu))
		part, e = Avoid(l, 0, mtu)
		tells(t, part, e, mtu)
		part, e = Cut(l, 0, mtu)
		tells(t, part, e, max(l[0].Cwnd-l[0].Cwnd/2, 4*mtu))
	}
}

package split

import (
	"math/big"
	"math/rand"
	"slices"
	"testing"

	"ropewalk/api"
)

// The chapter's words once more, by other means: what the package is held against. Numbers have no bound here.

const (
	maxPaths  = 8
	maxWindow = 1073741824
	leastMTU  = 100
	mostMTU   = 1500
)

func whole(n int) *big.Int { return big.NewInt(int64(n)) }

func plus(a, b *big.Int) *big.Int { return new(big.Int).Add(a, b) }

func less(a, b *big.Int) *big.Int { return new(big.Int).Sub(a, b) }

func below(a, b *big.Int) bool { return a.Cmp(b) < 0 }

func outside(n, low, high int) bool {
	return below(whole(n), whole(low)) || below(whole(high), whole(n))
}

func modelBadShares(s api.Shares) bool {
	return outside(s.Buffer, 1, maxWindow) || outside(s.Paths, 1, maxPaths) || outside(s.MTU, leastMTU, mostMTU)
}

func modelBadNumbers(out []int) bool {
	bad := 0
	for _, n := range out {
		if outside(n, 0, maxWindow) {
			bad++
		}
	}
	return bad > 0
}

func modelCheck(s api.Shares, out []int) api.Errno {
	switch {
	case modelBadShares(s):
		return 140
	case len(out) != s.Paths, modelBadNumbers(out):
		return 1
	}
	return 0
}

// modelOf is a path's share of n bytes: one more where a rest is left.
func modelOf(n, paths int) *big.Int {
	quotient, rest := new(big.Int).QuoRem(whole(n), whole(paths), new(big.Int))
	if rest.Sign() != 0 {
		quotient = plus(quotient, whole(1))
	}
	return quotient
}

func modelShare(s api.Shares) (int, api.Errno) {
	if modelBadShares(s) {
		return 0, 140
	}
	return int(modelOf(s.Buffer, s.Paths).Int64()), 0
}

func modelMay(s api.Shares, path int, out []int) (bool, api.Errno) {
	if e := modelCheck(s, out); e != 0 {
		return false, e
	}
	if outside(path, 0, s.Paths-1) {
		return false, 5
	}
	return below(whole(out[path]), modelOf(s.Buffer, s.Paths)), 0
}

func modelPut(s api.Shares, path, size int, out []int) ([]int, api.Errno) {
	may, e := modelMay(s, path, out)
	switch {
	case e != 0:
		return nil, e
	case outside(size, 1, s.MTU):
		return nil, 5
	case !may:
		return nil, 141
	}
	var list []int
	for i, n := range out {
		if i == path {
			n = int(plus(whole(n), whole(size)).Int64())
		}
		list = append(list, n)
	}
	return list, 0
}

func modelLeft(s api.Shares, window int, out []int) ([]int, api.Errno) {
	if e := modelCheck(s, out); e != 0 {
		return nil, e
	}
	if outside(window, 0, maxWindow) {
		return nil, 5
	}
	var list []int
	for _, n := range out {
		left := less(modelOf(s.Buffer, s.Paths), whole(n))
		other := less(whole(0), whole(n))
		if window > 0 {
			other = less(modelOf(window, s.Paths), whole(n))
		}
		if below(other, left) {
			left = other
		}
		if left.Sign() < 0 {
			left = whole(0)
		}
		list = append(list, int(left.Int64()))
	}
	return list, 0
}

func modelTotal(out []int) (int, api.Errno) {
	if len(out) > maxPaths || modelBadNumbers(out) {
		return 0, 1
	}
	sum := whole(0)
	for _, n := range out {
		sum = plus(sum, whole(n))
	}
	return int(sum.Int64()), 0
}

// Each of these makes a call with a slice handed in whole, holds it against the model and against itself (nothing is kept, nothing that is handed in is changed), and answers what it told.

// twice makes a call two times, and holds both against what a model tells.
func twice[A any](t *testing.T, name string, out []int, same func(a, b A) bool, call, model func([]int) (A, api.Errno)) (A, api.Errno) {
	t.Helper()
	was := slices.Clone(out)
	a, e := call(out)
	if want, wantE := model(was); !same(a, want) || e != wantE {
		t.Fatalf("%s of %v = %v, %d, want %v, %d", name, was, a, e, want, wantE)
	}
	if again, againE := call(out); !same(again, a) || againE != e || !slices.Equal(out, was) {
		t.Fatalf("%s of %v = %v, %d at first, then %v, %d; %v behind it", name, was, a, e, again, againE, out)
	}
	return a, e
}

func equal[A comparable](a, b A) bool { return a == b }

func alike(a, b []int) bool { return slices.Equal(a, b) }

func check(t *testing.T, s api.Shares, out []int) api.Errno {
	t.Helper()
	_, e := twice(t, "Check", out, equal[int],
		func(l []int) (int, api.Errno) { return 0, Check(s, l...) },
		func(l []int) (int, api.Errno) { return 0, modelCheck(s, l) })
	return e
}

func share(t *testing.T, s api.Shares) (int, api.Errno) {
	t.Helper()
	return twice(t, "Share", nil, equal[int],
		func([]int) (int, api.Errno) { return Share(s) },
		func([]int) (int, api.Errno) { return modelShare(s) })
}

func may(t *testing.T, s api.Shares, path int, out []int) (bool, api.Errno) {
	t.Helper()
	return twice(t, "May", out, equal[bool],
		func(l []int) (bool, api.Errno) { return May(s, path, l...) },
		func(l []int) (bool, api.Errno) { return modelMay(s, path, l) })
}

func put(t *testing.T, s api.Shares, path, size int, out []int) ([]int, api.Errno) {
	t.Helper()
	return twice(t, "Put", out, alike,
		func(l []int) ([]int, api.Errno) { return Put(s, path, size, l...) },
		func(l []int) ([]int, api.Errno) { return modelPut(s, path, size, l) })
}

func left(t *testing.T, s api.Shares, window int, out []int) ([]int, api.Errno) {
	t.Helper()
	return twice(t, "Left", out, alike,
		func(l []int) ([]int, api.Errno) { return Left(s, window, l...) },
		func(l []int) ([]int, api.Errno) { return modelLeft(s, window, l) })
}

func total(t *testing.T, out []int) (int, api.Errno) {
	t.Helper()
	return twice(t, "Total", out, equal[int],
		func(l []int) (int, api.Errno) { return Total(l...) },
		func(l []int) (int, api.Errno) { return modelTotal(l) })
}

// some is a number from low to high, near one of them more often than not.
func some(r *rand.Rand, low, high int) int {
	room := high - low + 1
	near := min(room, 1<<r.Intn(8))
	switch r.Intn(3) {
	case 0:
		return low + r.Intn(near)
	case 1:
		return high - r.Intn(near)
	}
	return low + r.Intn(room)
}

// someShares may be: small and great buffers, those near a multiple of how many paths there are among them.
func someShares(r *rand.Rand) api.Shares {
	s := api.Shares{Buffer: some(r, 1, 1<<r.Intn(31)), Paths: 1 + r.Intn(maxPaths), MTU: some(r, leastMTU, mostMTU)}
	if r.Intn(2) == 0 {
		s.Buffer = min(maxWindow, max(1, s.Buffer/s.Paths*s.Paths-1+r.Intn(3)))
	}
	return s
}

// someOut is outstanding of shares that may be: near nothing, a share, a number handed in, and the greatest.
func someOut(r *rand.Rand, s api.Shares, near ...int) []int {
	from := append([]int{0, s.Buffer / s.Paths, s.Buffer / s.Paths, s.Buffer, maxWindow, r.Intn(maxWindow + 1)}, near...)
	list := make([]int, s.Paths)
	for i := range list {
		list[i] = min(maxWindow, max(0, from[r.Intn(len(from))]-3+r.Intn(7)))
	}
	return list
}

package couple

import (
	"math/big"
	"math/rand"
	"slices"
	"testing"

	"ropewalk/api"
)

// The chapter's words once more, by other means: what the package is held against. Numbers have no bound here.

const (
	maxPaths  = 8
	maxWindow = 1073741824
	maxMTU    = 65536
)

func whole(n int) *big.Int { return big.NewInt(int64(n)) }

func plus(a, b *big.Int) *big.Int { return new(big.Int).Add(a, b) }

func below(a, b *big.Int) bool { return a.Cmp(b) < 0 }

func lesser(a, b *big.Int) *big.Int {
	if below(b, a) {
		return b
	}
	return a
}

func greater(a, b *big.Int) *big.Int {
	if below(a, b) {
		return b
	}
	return a
}

func outside(n, low, high int) bool {
	return below(whole(n), whole(low)) || below(whole(high), whole(n))
}

func modelCheck(flows []api.Flow, mtu int) api.Errno {
	bad := outside(len(flows), 1, maxPaths) || outside(mtu, 1, maxMTU)
	for _, f := range flows {
		bad = bad || outside(f.Cwnd, 1, maxWindow) || outside(f.Thr, 1, maxWindow)
	}
	if bad {
		return 130
	}
	return 0
}

// modelRefuse is what Share, Slow, Avoid and Cut answer at first; n is 0 where none is asked for.
func modelRefuse(flows []api.Flow, i, n, mtu int) api.Errno {
	switch {
	case modelCheck(flows, mtu) != 0:
		return 130
	case outside(i, 0, len(flows)-1):
		return 5
	case outside(n, 0, maxWindow):
		return 1
	}
	return 0
}

// modelOf is path i's share of n.
func modelOf(flows []api.Flow, i int, n *big.Int) *big.Int {
	all := whole(0)
	for _, f := range flows {
		all = plus(all, whole(f.Thr))
	}
	return new(big.Int).Quo(new(big.Int).Mul(n, whole(flows[i].Thr)), all)
}

func modelShare(flows []api.Flow, i, of int) (int, api.Errno) {
	if e := modelRefuse(flows, i, of, 1); e != 0 {
		return 0, e
	}
	return int(modelOf(flows, i, whole(of)).Int64()), 0
}

func modelSlow(flows []api.Flow, i, acked, mtu int) (int, api.Errno) {
	if e := modelRefuse(flows, i, acked, mtu); e != 0 {
		return 0, e
	}
	return int(modelOf(flows, i, lesser(whole(acked), whole(mtu))).Int64()), 0
}

func modelAvoid(flows []api.Flow, i, mtu int) (int, api.Errno) {
	if e := modelRefuse(flows, i, 0, mtu); e != 0 {
		return 0, e
	}
	return int(modelOf(flows, i, whole(mtu)).Int64()), 0
}

func modelCut(flows []api.Flow, i, mtu int) (int, api.Errno) {
	if e := modelRefuse(flows, i, 0, mtu); e != 0 {
		return 0, e
	}
	all := whole(0)
	for _, f := range flows {
		all = plus(all, whole(f.Cwnd))
	}
	left := new(big.Int).Sub(whole(flows[i].Cwnd), new(big.Int).Quo(all, whole(2)))
	four := new(big.Int).Mul(whole(4), whole(mtu))
	return int(greater(greater(left, modelOf(flows, i, four)), whole(mtu)).Int64()), 0
}

func modelGrown(flows []api.Flow, acked []int, mtu, most int) ([]api.Flow, api.Errno) {
	if modelCheck(flows, mtu) != 0 {
		return nil, 130
	}
	bad := len(acked) != len(flows) || outside(most, 1, maxWindow)
	for _, n := range acked {
		bad = bad || outside(n, 0, maxWindow)
	}
	if bad {
		return nil, 1
	}
	var list []api.Flow
	for i, f := range flows {
		by := 0
		if acked[i] > 0 {
			switch {
			case f.Cwnd <= f.Thr:
				by, _ = modelSlow(flows, i, acked[i], mtu)
			case acked[i] >= f.Cwnd:
				by, _ = modelAvoid(flows, i, mtu)
			}
		}
		grown := greater(lesser(plus(whole(f.Cwnd), whole(by)), whole(most)), whole(f.Cwnd))
		list = append(list, api.Flow{Cwnd: int(grown.Int64()), Thr: f.Thr})
	}
	return list, 0
}

// Each of these makes a call, holds it against the model and against itself (nothing is kept, nothing that is handed in is changed), and answers what it told.

func check(t *testing.T, flows []api.Flow, mtu int) api.Errno {
	t.Helper()
	was := slices.Clone(flows)
	e := Check(flows, mtu)
	if want := modelCheck(was, mtu); e != want || Check(flows, mtu) != want || !slices.Equal(flows, was) {
		t.Fatalf("Check(%v, %d) = %d, want %d; %v behind it", was, mtu, e, want, flows)
	}
	return e
}

// twice makes a call two times, and holds both against what a model tells.
func twice(t *testing.T, name string, flows []api.Flow, call, model func([]api.Flow) (int, api.Errno)) (int, api.Errno) {
	t.Helper()
	was := slices.Clone(flows)
	n, e := call(flows)
	if want, wantE := model(was); n != want || e != wantE {
		t.Fatalf("%s of %v = %d, %d, want %d, %d", name, was, n, e, want, wantE)
	}
	if again, againE := call(flows); again != n || againE != e || !slices.Equal(flows, was) {
		t.Fatalf("%s of %v = %d, %d at first, then %d, %d; %v behind it", name, was, n, e, again, againE, flows)
	}
	return n, e
}

func share(t *testing.T, flows []api.Flow, i, of int) (int, api.Errno) {
	t.Helper()
	return twice(t, "Share", flows,
		func(l []api.Flow) (int, api.Errno) { return Share(l, i, of) },
		func(l []api.Flow) (int, api.Errno) { return modelShare(l, i, of) })
}

func slow(t *testing.T, flows []api.Flow, i, acked, mtu int) (int, api.Errno) {
	t.Helper()
	return twice(t, "Slow", flows,
		func(l []api.Flow) (int, api.Errno) { return Slow(l, i, acked, mtu) },
		func(l []api.Flow) (int, api.Errno) { return modelSlow(l, i, acked, mtu) })
}

func avoid(t *testing.T, flows []api.Flow, i, mtu int) (int, api.Errno) {
	t.Helper()
	return twice(t, "Avoid", flows,
		func(l []api.Flow) (int, api.Errno) { return Avoid(l, i, mtu) },
		func(l []api.Flow) (int, api.Errno) { return modelAvoid(l, i, mtu) })
}

func cut(t *testing.T, flows []api.Flow, i, mtu int) (int, api.Errno) {
	t.Helper()
	return twice(t, "Cut", flows,
		func(l []api.Flow) (int, api.Errno) { return Cut(l, i, mtu) },
		func(l []api.Flow) (int, api.Errno) { return modelCut(l, i, mtu) })
}

func grown(t *testing.T, flows []api.Flow, acked []int, mtu, most int) ([]api.Flow, api.Errno) {
	t.Helper()
	was, wasAcked := slices.Clone(flows), slices.Clone(acked)
	told, e := Grown(flows, acked, mtu, most)
	if want, wantE := modelGrown(was, wasAcked, mtu, most); !slices.Equal(told, want) || e != wantE {
		t.Fatalf("Grown(%v, %v, %d, %d) = %v, %d, want %v, %d", was, wasAcked, mtu, most, told, e, want, wantE)
	}
	again, againE := Grown(flows, acked, mtu, most)
	if !slices.Equal(again, told) || againE != e || !slices.Equal(flows, was) || !slices.Equal(acked, wasAcked) {
		t.Fatalf("Grown(%v, %v, %d, %d) = %v, %d at first, then %v, %d; %v, %v behind it", was, wasAcked, mtu, most, told, e, again, againE, flows, acked)
	}
	if e == 0 && (Check(told, mtu) != 0 || gain(flows, told).Cmp(whole(mtu)) > 0) {
		t.Fatalf("Grown(%v, %v, %d, %d) = %v", was, wasAcked, mtu, most, told)
	}
	return told, e
}

// gain is by how much all windows together are greater.
func gain(was, are []api.Flow) *big.Int {
	n := whole(0)
	for i := range was {
		n = plus(n, new(big.Int).Sub(whole(are[i].Cwnd), whole(was[i].Cwnd)))
	}
	return n
}

// all makes every call of flows, at numbers that hang on nothing else, and holds each against the model.
func all(t *testing.T, flows []api.Flow, i, n, mtu int, acked []int, most int) {
	t.Helper()
	check(t, flows, mtu)
	share(t, flows, i, n)
	slow(t, flows, i, n, mtu)
	avoid(t, flows, i, mtu)
	cut(t, flows, i, mtu)
	grown(t, flows, acked, mtu, most)
}

// some is a number from low to high, near one of them more often than not.
func some(r *rand.Rand, low, high int) int {
	room := high - low + 1
	near := min(room, 1<<r.Intn(8))
	switch r.Intn(3) {
	case 0:
		return low + r.Intn(near)
	case 1:
		return high - r.Intn(near)
	}
	return low + r.Intn(room)
}

// someFlows may be: small and great ones, thresholds alike and apart, windows near their thresholds.
func someFlows(r *rand.Rand) []api.Flow {
	list := make([]api.Flow, 1+r.Intn(maxPaths))
	for i := range list {
		list[i] = api.Flow{Cwnd: some(r, 1, 1<<r.Intn(31)), Thr: some(r, 1, 1<<r.Intn(31))}
		if i > 0 && r.Intn(3) == 0 {
			list[i].Thr = list[r.Intn(i)].Thr
		}
		if r.Intn(2) == 0 {
			list[i].Cwnd = min(maxWindow, max(1, list[i].Thr-2+r.Intn(5)))
		}
	}
	return list
}

// someAcked are numbers for flows, near their edges.
func someAcked(r *rand.Rand, flows []api.Flow, mtu int) []int {
	list := make([]int, len(flows))
	for i, f := range flows {
		from := []int{0, 1, mtu, f.Cwnd, f.Thr, maxWindow, r.Intn(maxWindow + 1)}
		list[i] = min(maxWindow, max(0, from[r.Intn(len(from))]-2+r.Intn(5)))
	}
	return list
}

// someMost is a bound of windows, near those that are and those that will be.
func someMost(r *rand.Rand, flows []api.Flow, mtu int) int {
	f := flows[r.Intn(len(flows))]
	from := []int{1, f.Cwnd, f.Cwnd + mtu/len(flows), f.Cwnd + mtu, maxWindow, maxWindow}
	return min(maxWindow, max(1, from[r.Intn(len(from))]-2+r.Intn(5)))
}

package cwnd

import (
	"math/big"
	"math/rand"
	"testing"

	"ropewalk/api"
)

// The chapter's words once more, by other means: what the package is held against. Numbers have no bound here.

const (
	leastMTU  = 100
	mostMTU   = 1500
	maxWindow = 1073741824
)

func whole(n int) *big.Int { return big.NewInt(int64(n)) }

func times(n, by int) *big.Int { return new(big.Int).Mul(whole(n), whole(by)) }

func plus(a, b *big.Int) *big.Int { return new(big.Int).Add(a, b) }

func less(a, b *big.Int) *big.Int { return new(big.Int).Sub(a, b) }

func below(a, b *big.Int) bool { return a.Cmp(b) < 0 }

func lesser(a, b *big.Int) *big.Int {
	if below(b, a) {
		return b
	}
	return a
}

func greater(a, b *big.Int) *big.Int {
	if below(a, b) {
		return b
	}
	return a
}

// cut is half a number.
func cut(n *big.Int) *big.Int { return new(big.Int).Quo(n, whole(2)) }

func between(low, n, high *big.Int) bool { return !below(n, low) && !below(high, n) }

func modelCheck(w api.Window) api.Errno {
	four := times(w.MTU, 4)
	for _, good := range []bool{
		between(whole(leastMTU), whole(w.MTU), whole(mostMTU)),
		between(four, whole(w.Cap), whole(maxWindow)),
		between(whole(w.MTU), whole(w.Cwnd), whole(w.Cap)),
		between(four, whole(w.Ssthresh), whole(maxWindow)),
		between(whole(0), whole(w.Partial), whole(w.Cwnd)),
	} {
		if !good {
			return 120
		}
	}
	return 0
}

func modelOpen(mtu, most, peer int) (api.Window, api.Errno) {
	four := times(mtu, 4)
	if !between(whole(leastMTU), whole(mtu), whole(mostMTU)) || !between(four, whole(most), whole(maxWindow)) {
		return api.Window{}, 1
	}
	threshold := greater(lesser(whole(peer), whole(maxWindow)), four)
	return api.Window{Cwnd: int(four.Int64()), Ssthresh: int(threshold.Int64()), MTU: mtu, Cap: most}, 0
}

// modelRefuse is what Ack and Grow answer at first.
func modelRefuse(w api.Window, n int) api.Errno {
	if e := modelCheck(w); e != 0 {
		return e
	}
	if !between(whole(0), whole(n), whole(maxWindow)) {
		return 5
	}
	return 0
}

func modelAck(w api.Window, n int, full, moved bool) (api.Window, api.Errno) {
	if e := modelRefuse(w, n); e != 0 {
		return api.Window{}, e
	}
	if !moved {
		return w, 0
	}
	cwnd, partial := whole(w.Cwnd), whole(w.Partial)
	if !below(whole(w.Ssthresh), cwnd) {
		if full {
			cwnd = plus(cwnd, lesser(whole(n), whole(w.MTU)))
		}
	} else {
		partial = plus(partial, whole(n))
		switch {
		case below(partial, cwnd):
		case full:
			partial = less(partial, cwnd)
			cwnd = plus(cwnd, whole(w.MTU))
		default:
			partial = cwnd
		}
	}
	cwnd = lesser(cwnd, whole(w.Cap))
	partial = lesser(partial, cwnd)
	w.Cwnd, w.Partial = int(cwnd.Int64()), int(partial.Int64())
	return w, 0
}

func modelGrow(w api.Window, n int) (api.Window, api.Errno) {
	if e := modelRefuse(w, n); e != 0 {
		return api.Window{}, e
	}
	w.Cwnd = int(lesser(plus(whole(w.Cwnd), whole(n)), whole(w.Cap)).Int64())
	return w, 0
}

// modelHalf is half of a window, but not below four packets.
func modelHalf(w api.Window) *big.Int { return greater(cut(whole(w.Cwnd)), times(w.MTU, 4)) }

func modelFast(w api.Window) (api.Window, api.Errno) {
	if e := modelCheck(w); e != 0 {
		return api.Window{}, e
	}
	half := modelHalf(w)
	return api.Window{Cwnd: int(lesser(half, whole(w.Cap)).Int64()), Ssthresh: int(half.Int64()), MTU: w.MTU, Cap: w.Cap}, 0
}

func modelTimeout(w api.Window) (api.Window, api.Errno) {
	if e := modelCheck(w); e != 0 {
		return api.Window{}, e
	}
	return api.Window{Cwnd: w.MTU, Ssthresh: int(modelHalf(w).Int64()), MTU: w.MTU, Cap: w.Cap}, 0
}

func modelIdle(w api.Window) (api.Window, api.Errno) {
	if e := modelCheck(w); e != 0 {
		return api.Window{}, e
	}
	return api.Window{Cwnd: int(lesser(modelHalf(w), whole(w.Cwnd)).Int64()), Ssthresh: w.Ssthresh, MTU: w.MTU, Cap: w.Cap}, 0
}

func modelSpace(w api.Window, out int) int {
	if modelCheck(w) != 0 || out < 0 {
		return 0
	}
	return int(greater(less(whole(w.Cwnd), whole(out)), whole(0)).Int64())
}

// Each of these makes a call, holds it against the model and against itself (nothing is kept), and answers what it told.

func check(t *testing.T, w api.Window) api.Errno {
	t.Helper()
	e := Check(w)
	if want := modelCheck(w); e != want || Check(w) != want {
		t.Fatalf("Check(%+v) = %d, want %d", w, e, want)
	}
	return e
}

func open(t *testing.T, mtu, most, peer int) (api.Window, api.Errno) {
	t.Helper()
	told, e := Open(mtu, most, peer)
	if want, wantE := modelOpen(mtu, most, peer); told != want || e != wantE {
		t.Fatalf("Open(%d, %d, %d) = %+v, %d, want %+v, %d", mtu, most, peer, told, e, want, wantE)
	}
	if again, againE := Open(mtu, most, peer); again != told || againE != e {
		t.Fatalf("Open(%d, %d, %d) = %+v, %d at first, then %+v, %d", mtu, most, peer, told, e, again, againE)
	}
	sound(t, told, e)
	return told, e
}

// twice makes a call two times, and holds both against what a model tells.
func twice(t *testing.T, name string, w api.Window, call, model func(api.Window) (api.Window, api.Errno)) (api.Window, api.Errno) {
	t.Helper()
	was := w
	told, e := call(w)
	if want, wantE := model(w); told != want || e != wantE {
		t.Fatalf("%s of %+v = %+v, %d, want %+v, %d", name, w, told, e, want, wantE)
	}
	if again, againE := call(w); again != told || againE != e || w != was {
		t.Fatalf("%s of %+v = %+v, %d at first, then %+v, %d", name, was, told, e, again, againE)
	}
	sound(t, told, e)
	return told, e
}

// sound: a window that is told without an error may be, and one that is told with one is zero.
func sound(t *testing.T, told api.Window, e api.Errno) {
	t.Helper()
	if e == 0 && Check(told) != 0 || e != 0 && told != (api.Window{}) {
		t.Fatalf("%+v is told, with %d", told, e)
	}
}

func ack(t *testing.T, w api.Window, n int, full, moved bool) (api.Window, api.Errno) {
	t.Helper()
	told, e := twice(t, "Ack", w,
		func(w api.Window) (api.Window, api.Errno) { return Ack(w, n, full, moved) },
		func(w api.Window) (api.Window, api.Errno) { return modelAck(w, n, full, moved) })
	if e == 0 && (told.Cwnd < w.Cwnd || told.Cwnd > w.Cwnd+w.MTU) {
		t.Fatalf("Ack(%+v, %d, %v, %v) = %+v", w, n, full, moved, told)
	}
	return told, e
}

func grow(t *testing.T, w api.Window, n int) (api.Window, api.Errno) {
	t.Helper()
	return twice(t, "Grow", w,
		func(w api.Window) (api.Window, api.Errno) { return Grow(w, n) },
		func(w api.Window) (api.Window, api.Errno) { return modelGrow(w, n) })
}

func fast(t *testing.T, w api.Window) (api.Window, api.Errno) {
	t.Helper()
	told, e := twice(t, "Fast", w, Fast, modelFast)
	if e == 0 && w.Cwnd >= 4*w.MTU && told.Cwnd > w.Cwnd {
		t.Fatalf("Fast of %+v = %+v", w, told)
	}
	return told, e
}

func timeout(t *testing.T, w api.Window) (api.Window, api.Errno) {
	t.Helper()
	told, e := twice(t, "Timeout", w, Timeout, modelTimeout)
	if e == 0 && told.Cwnd > w.Cwnd {
		t.Fatalf("Timeout of %+v = %+v", w, told)
	}
	return told, e
}

func idle(t *testing.T, w api.Window) (api.Window, api.Errno) {
	t.Helper()
	told, e := twice(t, "Idle", w, Idle, modelIdle)
	if e == 0 && told.Cwnd > w.Cwnd {
		t.Fatalf("Idle of %+v = %+v", w, told)
	}
	return told, e
}

func space(t *testing.T, w api.Window, out int) int {
	t.Helper()
	was := w
	n := Space(w, out)
	if want := modelSpace(w, out); n != want || Space(w, out) != want || w != was {
		t.Fatalf("Space(%+v, %d) = %d, want %d", was, out, n, want)
	}
	return n
}

// some is a number from low to high, near one of them more often than not.
func some(r *rand.Rand, low, high int) int {
	room := high - low + 1
	near := min(room, 1<<r.Intn(8))
	switch r.Intn(3) {
	case 0:
		return low + r.Intn(near)
	case 1:
		return high - r.Intn(near)
	}
	return low + r.Intn(room)
}

// someWindow is one that may be, small and great ones, at what is rolled alone.
func someWindow(r *rand.Rand) api.Window {
	w := api.Window{MTU: some(r, leastMTU, mostMTU)}
	w.Cap = some(r, 4*w.MTU, min(maxWindow, 4*w.MTU<<r.Intn(22)))
	w.Cwnd = some(r, w.MTU, w.Cap)
	w.Ssthresh = some(r, 4*w.MTU, min(maxWindow, 4*w.MTU<<r.Intn(22)))
	if r.Intn(2) == 0 {
		w.Ssthresh = min(maxWindow, max(4*w.MTU, w.Cwnd-2+r.Intn(5)))
	}
	w.Partial = some(r, 0, w.Cwnd)
	return w
}

// someBytes is a number that Ack and Grow take, mostly one that is near an edge of a window.
func someBytes(r *rand.Rand, w api.Window) int {
	list := []int{0, 1, w.MTU, w.Cwnd, w.Cwnd - w.Partial, 2*w.Cwnd - w.Partial, w.Cap - w.Cwnd, w.Cap, maxWindow, r.Intn(maxWindow + 1), r.Intn(2*w.MTU + 1)}
	return min(maxWindow, max(0, list[r.Intn(len(list))]-2+r.Intn(5)))
}

package rto

import (
	"math/big"
	"math/rand"
	"testing"

	"ropewalk/api"
)

// The chapter's words once more, by other means: what the package is held against. Numbers have no bound here.

const maxRtt = 1048576

func whole(n int) *big.Int { return big.NewInt(int64(n)) }

func plus(a, b *big.Int) *big.Int { return new(big.Int).Add(a, b) }

func less(a, b *big.Int) *big.Int { return new(big.Int).Sub(a, b) }

// part is a quotient, the rest left out.
func part(a *big.Int, parts int) *big.Int { return new(big.Int).Quo(a, whole(parts)) }

// rising: each number is at least the one ahead of it.
func rising(list ...int) bool {
	for i, n := range list {
		if i > 0 && whole(list[i-1]).Cmp(whole(n)) > 0 {
			return false
		}
	}
	return true
}

// nearest is a number, not below one and not above another.
func nearest(n *big.Int, low, high int) int {
	if n.Cmp(whole(low)) < 0 {
		return low
	}
	if n.Cmp(whole(high)) > 0 {
		return high
	}
	return int(n.Int64())
}

func modelCheck(t api.Timing, r api.Rtt) api.Errno {
	if !rising(1, t.Min, t.Init, t.Max, maxRtt) {
		return 100
	}
	if !r.Known && (r.Smooth != 0 || r.Var != 0) {
		return 1
	}
	if !rising(0, r.Smooth, 8*maxRtt) || !rising(0, r.Var, 8*maxRtt) || !rising(t.Min, r.Timer, t.Max) {
		return 1
	}
	return 0
}

func modelStart(t api.Timing) (api.Rtt, api.Errno) {
	if !rising(1, t.Min, t.Init, t.Max, maxRtt) {
		return api.Rtt{}, 100
	}
	return api.Rtt{Timer: t.Init}, 0
}

func modelMeasure(t api.Timing, r api.Rtt, n int) (api.Rtt, api.Errno) {
	if e := modelCheck(t, r); e != 0 {
		return api.Rtt{}, e
	}
	if !rising(0, n, maxRtt) {
		return api.Rtt{}, 5
	}
	smooth, vary := new(big.Int).Mul(whole(8), whole(n)), new(big.Int).Mul(whole(2), whole(n))
	if r.Known {
		d := less(whole(n), part(whole(r.Smooth), 8))
		vary = plus(less(whole(r.Var), part(whole(r.Var), 4)), new(big.Int).Abs(d))
		smooth = plus(whole(r.Smooth), d)
	}
	rest := vary
	if vary.Sign() == 0 {
		rest = whole(1)
	}
	timer := nearest(plus(part(smooth, 8), rest), t.Min, t.Max)
	return api.Rtt{Known: true, Smooth: int(smooth.Int64()), Var: int(vary.Int64()), Timer: timer}, 0
}

func modelBackoff(t api.Timing, r api.Rtt) (api.Rtt, api.Errno) {
	if e := modelCheck(t, r); e != 0 {
		return api.Rtt{}, e
	}
	r.Timer = nearest(plus(whole(r.Timer), whole(r.Timer)), t.Min, t.Max)
	return r, 0
}

func modelTrip(r api.Rtt) int {
	trip := part(whole(r.Smooth), 8)
	if trip.Sign() < 0 {
		return 0
	}
	return int(trip.Int64())
}

// Each of these makes a call, holds it against the model and against itself (nothing is kept), and answers what it told.

func check(t *testing.T, b api.Timing, r api.Rtt) api.Errno {
	t.Helper()
	e := Check(b, r)
	if want := modelCheck(b, r); e != want || Check(b, r) != want {
		t.Fatalf("Check(%+v, %+v) = %d, want %d", b, r, e, want)
	}
	return e
}

func start(t *testing.T, b api.Timing) (api.Rtt, api.Errno) {
	t.Helper()
	told, e := Start(b)
	if want, wantE := modelStart(b); told != want || e != wantE {
		t.Fatalf("Start(%+v) = %+v, %d, want %+v, %d", b, told, e, want, wantE)
	}
	return told, e
}

func measure(t *testing.T, b api.Timing, r api.Rtt, n int) (api.Rtt, api.Errno) {
	t.Helper()
	wasB, was := b, r
	told, e := Measure(b, r, n)
	if want, wantE := modelMeasure(b, r, n); told != want || e != wantE {
		t.Fatalf("Measure(%+v, %+v, %d) = %+v, %d, want %+v, %d", b, r, n, told, e, want, wantE)
	}
	if again, againE := Measure(b, r, n); again != told || againE != e || b != wasB || r != was {
		t.Fatalf("Measure(%+v, %+v, %d) = %+v, %d at first, then %+v, %d", b, r, n, told, e, again, againE)
	}
	return told, e
}

func backoff(t *testing.T, b api.Timing, r api.Rtt) (api.Rtt, api.Errno) {
	t.Helper()
	wasB, was := b, r
	told, e := Backoff(b, r)
	if want, wantE := modelBackoff(b, r); told != want || e != wantE {
		t.Fatalf("Backoff(%+v, %+v) = %+v, %d, want %+v, %d", b, r, told, e, want, wantE)
	}
	if again, againE := Backoff(b, r); again != told || againE != e || b != wasB || r != was {
		t.Fatalf("Backoff(%+v, %+v) = %+v, %d at first, then %+v, %d", b, r, told, e, again, againE)
	}
	return told, e
}

func trip(t *testing.T, r api.Rtt) int {
	t.Helper()
	n := Trip(r)
	if want := modelTrip(r); n != want {
		t.Fatalf("Trip(%+v) = %d, want %d", r, n, want)
	}
	return n
}

// someBounds are bounds that may be, small and great ones, at what is rolled alone.
func someBounds(r *rand.Rand) api.Timing {
	b := api.Timing{Max: 1 + r.Intn(1<<r.Intn(21))}
	b.Init = 1 + r.Intn(b.Max)
	b.Min = 1 + r.Intn(b.Init)
	return b
}

// someState is a state that may be with bounds.
func someState(r *rand.Rand, b api.Timing) api.Rtt {
	s := api.Rtt{Known: r.Intn(8) > 0, Timer: b.Min + r.Intn(b.Max-b.Min+1)}
	if s.Known {
		s.Smooth = r.Intn(1<<r.Intn(24) + 1)
		s.Var = r.Intn(1<<r.Intn(24) + 1)
	}
	return s
}

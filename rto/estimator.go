package rto

import (
	"cmp"

	"ropewalk/api"
)

// A state keeps its means as multiples, so that whole numbers lose less of them: a measurement moves each of them by one part of so many.
const (
	smoothParts = 8
	varParts    = 4
	mostMean    = 8 * api.MaxRtt // of either one
)

// bounds are what a timer is kept within, and what a state is checked with.
type bounds struct{ api.Timing }

// estimator is a state and its bounds. Its check is that of the bounds, as no state may be without them.
type estimator struct {
	bounds
	api.Rtt
}

// take answers an estimator that is good for measurements where there is no error.
func take(t api.Timing, r api.Rtt) (estimator, api.Errno) {
	e := estimator{bounds{t}, r}
	return e, e.check(r)
}

func (b bounds) check(r api.Rtt) api.Errno {
	switch {
	case !b.rise():
		return api.ErrTiming
	case !sound(r) || !within(r.Timer, b.Min, b.Max):
		return api.ErrArg
	}
	return api.OK
}

func (b bounds) rise() bool {
	return 1 <= b.Min && b.Min <= b.Init && b.Init <= b.Max && b.Max <= api.MaxRtt
}

// sound: the means may be, whatever the bounds are.
func sound(r api.Rtt) bool {
	if !r.Known {
		return r.Smooth == 0 && r.Var == 0
	}
	return within(r.Smooth, 0, mostMean) && within(r.Var, 0, mostMean)
}

func (e *estimator) measure(n int) {
	if e.Known {
		e.adjust(n - Trip(e.Rtt))
	} else {
		e.begin(n)
	}
	e.wait(Trip(e.Rtt) + max(1, e.Var)) // a timer as long as the trip would run out with the answer
}

// begin takes the first trip for the mean, and half of it for the variation.
func (e *estimator) begin(n int) {
	e.Known = true
	e.Smooth = smoothParts * n
	e.Var = varParts * n / 2
}

// adjust moves both means by how far a trip is off the smoothed one.
func (e *estimator) adjust(off int) {
	e.Var += max(off, -off) - e.Var/varParts
	e.Smooth += off
}

func (e *estimator) wait(timer int) { e.Timer = keep(timer, e.Min, e.Max) }

// keep is the number that is nearest to n within bounds, the least one of which is not above the most one.
func keep[N cmp.Ordered](n, least, most N) N { return max(least, min(n, most)) }

func within[N cmp.Ordered](n, least, most N) bool { return n == keep(n, least, most) }

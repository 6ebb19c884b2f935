package path

import (
	"math"
	"math/rand"
	"slices"
	"testing"

	"ropewalk/api"
)

// usual is a care with a state of each kind.
func usual() api.Care { return api.Care{Max: 2, Fail: 0, Pause: 30000} }

// cares are such that may be, at the edges.
func cares() []api.Care {
	var list []api.Care
	for _, bounds := range [][2]int{{0, 0}, {1, 0}, {1, 1}, {2, 0}, {2, 1}, {2, 2}, {5, 3}, {99, 99}, {100, 0}, {100, 50}, {100, 99}, {100, 100}} {
		for _, pause := range []int{1, 2, 30000, maxWait - 1, maxWait} {
			list = append(list, api.Care{Max: bounds[0], Fail: bounds[1], Pause: pause})
		}
	}
	return list
}

// counts are what Max and Fail are tried at, good and bad ones.
func counts() []int {
	return []int{math.MinInt, math.MinInt32, -100, -1, 0, 1, 2, 50, 99, 100, 101, 102, 1 << 32, 1<<32 + 1, math.MaxInt}
}

// waits are pauses and timers, good and bad ones.
func waits() []int {
	return []int{math.MinInt, -maxWait, -1, 0, 1, 2, 1000, maxWait - 1, maxWait, maxWait + 1, 1 << 32, 1<<32 + 1, math.MaxInt}
}

func goodWait(ms int) bool { return 1 <= ms && ms <= maxWait }

func times() []int {
	return []int{math.MinInt, -maxTime, -1, 0, 1, 5, 1 << 32, maxTime - 1, maxTime, maxTime + 1, 1 << 41, math.MaxInt}
}

func goodTime(ms int) bool { return 0 <= ms && ms <= maxTime }

// badTimes are none.
func badTimes() []int {
	return slices.DeleteFunc(times(), goodTime)
}

// at is a path with so many errors.
func at(t *testing.T, c api.Care, now, errors int) *pair {
	t.Helper()
	p := pairOf(t, c, now)
	for range errors {
		p.fail()
	}
	return p
}

// is holds a path's state and errors against what they are to be.
func is(t *testing.T, p *Path, state api.PathState, errors int) {
	t.Helper()
	if s, n := p.State(), p.Errors(); s != state || n != errors {
		t.Errorf("State %d, Errors %d, want %d, %d", s, n, state, errors)
	}
}

func isOpen(t *testing.T, p *Path, number uint32, begun int, open bool) {
	t.Helper()
	if n, b, ok := p.Open(); n != number || b != begun || ok != open {
		t.Errorf("Open = %d, %d, %v, want %d, %d, %v", n, b, ok, number, begun, open)
	}
}

// due holds what Ask tells without an error against a time.
func due(t *testing.T, p *Path, timer, want int) {
	t.Helper()
	if n, e := p.Ask(timer); n != want || e != 0 {
		t.Errorf("Ask(%d) = %d, %d, want %d", timer, n, e, want)
	}
}

// tells holds what Fail, Good or Missed tell without an error.
func tells(t *testing.T, call func() (bool, api.Errno), want bool) {
	t.Helper()
	if yes, e := call(); yes != want || e != 0 {
		t.Errorf("%v, %d, want %v, 0", yes, e, want)
	}
}

func hears(t *testing.T, p *Path, number uint32, now, ago int, changed bool) {
	t.Helper()
	if n, yes, e := p.Heard(number, now); n != ago || yes != changed || e != 0 {
		t.Errorf("Heard(%d, %d) = %d, %v, %d, want %d, %v, 0", number, now, n, yes, e, ago, changed)
	}
}

func hearsNot(t *testing.T, p *Path, number uint32, now int, want api.Errno) {
	t.Helper()
	was := *p
	if n, yes, e := p.Heard(number, now); n != 0 || yes || e != want || *p != was {
		t.Errorf("Heard(%d, %d) = %d, %v, %d, want 0, false, %d; %+v, before %+v", number, now, n, yes, e, want, *p, was)
	}
}

func begins(t *testing.T, p *Path, now int, want uint32) {
	t.Helper()
	if n, e := p.Beat(now); n != want || e != 0 {
		t.Errorf("Beat(%d) = %d, %d, want %d, 0", now, n, e, want)
	}
}

func beginsNot(t *testing.T, p *Path, now int, want api.Errno) {
	t.Helper()
	was := *p
	if n, e := p.Beat(now); n != 0 || e != want || *p != was {
		t.Errorf("Beat(%d) = %d, %d, want 0, %d; %+v, before %+v", now, n, e, want, *p, was)
	}
}

func made(t *testing.T, c api.Care, now int) *Path {
	t.Helper()
	p, e := New(c, now)
	if p == nil || e != 0 {
		t.Fatalf("New(%+v, %d) = %v, %d", c, now, p, e)
	}
	return p
}

func TestNumbersOfErrorsStatesAndLimits(t *testing.T) {
	if api.OK != 0 || api.ErrArg != 1 || api.ErrNil != 4 || api.ErrCare != 110 || api.ErrBeat != 111 || api.MaxTime != maxTime {
		t.Error("another number")
	}
	if api.Active != 1 || api.Failing != 2 || api.Inactive != 3 || maxTime != 1<<40 || maxWait != 1<<31 {
		t.Error("another number")
	}
}

func TestExampleOfStates(t *testing.T) {
	p := made(t, api.Care{Max: 2, Fail: 0, Pause: 1}, 0)
	is(t, p, api.Active, 0)
	tells(t, p.Fail, true)
	is(t, p, api.Failing, 1)
	tells(t, p.Fail, false)
	is(t, p, api.Failing, 2)
	tells(t, p.Fail, true)
	is(t, p, api.Inactive, 3)
	tells(t, p.Good, true)
	is(t, p, api.Active, 0)
}

func TestExampleOfAsking(t *testing.T) {
	p := made(t, api.Care{Max: 2, Pause: 30000}, 100)
	due(t, p, 1000, 31100)
	p.Fail()
	is(t, p, api.Failing, 1)
	due(t, p, 1000, 1100)
}

func TestExampleOfBeats(t *testing.T) {
	p := made(t, usual(), 0)
	begins(t, p, 5, 1)
	beginsNot(t, p, 6, 111)
	hears(t, p, 1, 25, 20, false)
}

// A path that nobody made

func TestUnmadePath(t *testing.T) {
	var none *Path
	for _, p := range []*Path{none, {}, new(Path)} {
		for range 2 { // the calls change nothing: it is as it was
			is(t, p, 0, 0)
			isOpen(t, p, 0, 0, false)
			for _, call := range []func() (bool, api.Errno){p.Fail, p.Good, p.Missed} {
				if yes, e := call(); yes || e != 4 {
					t.Errorf("%v, %d, want false, 4", yes, e)
				}
			}
			for _, n := range append(times(), waits()...) {
				if e := p.Used(n); e != 4 {
					t.Errorf("Used(%d) = %d", n, e)
				}
				if ms, e := p.Ask(n); ms != 0 || e != 4 {
					t.Errorf("Ask(%d) = %d, %d", n, ms, e)
				}
				if number, e := p.Beat(n); number != 0 || e != 4 {
					t.Errorf("Beat(%d) = %d, %d", n, number, e)
				}
				for _, number := range []uint32{0, 1, 2, math.MaxUint32} {
					if ago, yes, e := p.Heard(number, n); ago != 0 || yes || e != 4 {
						t.Errorf("Heard(%d, %d) = %d, %v, %d", number, n, ago, yes, e)
					}
				}
			}
		}
		if p != nil && *p != (Path{}) {
			t.Error("a path that nobody made has changed")
		}
	}
}

// P11.1

func TestNewIsActiveAndUsedThen(t *testing.T) {
	for _, c := range cares() {
		for _, now := range []int{0, 1, 100, 1 << 32, maxTime - 1, maxTime} {
			p := pairOf(t, c, now)
			p.look()
			is(t, p.path, api.Active, 0)
			isOpen(t, p.path, 0, 0, false)
			due(t, p.path, 7, min(now+7+c.Pause, maxTime))
		}
	}
}

// refused holds New against one error.
func refused(t *testing.T, c api.Care, now int, want api.Errno) {
	t.Helper()
	if p, e := New(c, now); p != nil || e != want {
		t.Errorf("New(%+v, %d) = %v, %d, want nil, %d", c, now, p, e, want)
	}
}

func TestNewOfCaresThatMayNotBe(t *testing.T) {
	broken := []api.Care{
		{},
		{Max: 2},
		{Max: -1, Fail: 0, Pause: 9},
		{Max: -1, Fail: -1, Pause: 9},
		{Max: math.MinInt, Fail: 0, Pause: 9},
		{Max: math.MinInt, Fail: math.MinInt, Pause: 9},
		{Max: 101, Fail: 0, Pause: 9},
		{Max: 101, Fail: 100, Pause: 9},
		{Max: 101, Fail: 101, Pause: 9},
		{Max: math.MaxInt, Fail: 1, Pause: 9},
		{Max: math.MaxInt, Fail: math.MaxInt, Pause: 9},
		{Max: 100, Fail: -1, Pause: 9},
		{Max: 0, Fail: -1, Pause: 9},
		{Max: 100, Fail: math.MinInt, Pause: 9},
		{Max: 100, Fail: 101, Pause: 9},
		{Max: 100, Fail: math.MaxInt, Pause: 9},
		{Max: 0, Fail: 1, Pause: 9},
		{Max: 1, Fail: 2, Pause: 9},
		{Max: 99, Fail: 100, Pause: 9},
		{Max: 2, Fail: 1, Pause: 0},
		{Max: 2, Fail: 1, Pause: -1},
		{Max: 2, Fail: 1, Pause: maxWait + 1},
		{Max: 2, Fail: 1, Pause: 1<<32 + 1},
		{Max: 2, Fail: 1, Pause: math.MinInt},
		{Max: 2, Fail: 1, Pause: math.MaxInt},
		{Max: 101, Fail: 102, Pause: 0},
		{Max: -1, Fail: 101, Pause: maxWait + 1},
	}
	for _, c := range broken {
		for _, now := range times() { // of a care and a time that may not be, the care is told
			refused(t, c, now, 110)
		}
	}
}

func TestNewAtTimesThatAreNone(t *testing.T) {
	for _, c := range cares() {
		for _, now := range badTimes() {
			refused(t, c, now, 1)
		}
	}
}

func TestNewOfAllCaresAtEdges(t *testing.T) {
	good := 0
	for _, most := range counts() {
		for _, fail := range counts() {
			for _, pause := range waits() {
				for _, now := range times() {
					c := api.Care{Max: most, Fail: fail, Pause: pause}
					if _, want := modelNew(c, now); want != 0 {
						refused(t, c, now, want)
					} else {
						made(t, c, now)
						good++
					}
				}
			}
		}
	}
	// 0, 1, 2, 50, 99, 100 with those not above them, 5 pauses, 6 times
	if good != 21*5*6 {
		t.Errorf("%d paths were made", good)
	}
}

func TestNewForFailOneBelowAtAndAboveMax(t *testing.T) {
	for most := range 101 {
		made(t, api.Care{Max: most, Fail: most, Pause: 1}, 0)
		refused(t, api.Care{Max: most, Fail: most + 1, Pause: 1}, 0, 110)
		if most > 0 {
			made(t, api.Care{Max: most, Fail: most - 1, Pause: 1}, 0)
		}
	}
	refused(t, api.Care{Max: 0, Fail: -1, Pause: 1}, 0, 110)
}

// P11.2

// stateOf is the chapter's word for a number of errors.
func stateOf(c api.Care, errors int) api.PathState {
	switch {
	case errors > c.Max:
		return 3
	case errors > c.Fail:
		return 2
	}
	return 1
}

func TestFailsUpToAndPastMax(t *testing.T) {
	for most := range 101 {
		for fail := range most + 1 {
			c := api.Care{Max: most, Fail: fail, Pause: 9}
			p := made(t, c, 0)
			for errors := 1; errors <= most+4; errors++ {
				held := min(errors, most+1)
				tells(t, p.Fail, errors == fail+1 || errors == most+1)
				is(t, p, stateOf(c, held), held)
			}
		}
	}
}

func TestFailsWithoutAFailingBetween(t *testing.T) {
	p := made(t, api.Care{Max: 0, Fail: 0, Pause: 9}, 0)
	tells(t, p.Fail, true)
	is(t, p, api.Inactive, 1)
	tells(t, p.Fail, false)
	is(t, p, api.Inactive, 1)
	p = made(t, api.Care{Max: 1, Fail: 1, Pause: 9}, 0)
	tells(t, p.Fail, false)
	is(t, p, api.Active, 1)
	tells(t, p.Fail, true)
	is(t, p, api.Inactive, 2)
}

func TestGoodAtEachNumberOfErrors(t *testing.T) {
	for _, c := range cares() {
		for errors := range c.Max + 4 {
			p := at(t, c, 40, errors)
			tells(t, p.path.Good, errors > c.Fail)
			is(t, p.path, api.Active, 0)
			tells(t, p.path.Good, false)
			is(t, p.path, api.Active, 0)
			for again := 1; again <= c.Max+2; again++ { // the errors are counted from none on
				tells(t, p.path.Fail, again == c.Fail+1 || again == c.Max+1)
				is(t, p.path, stateOf(c, min(again, c.Max+1)), min(again, c.Max+1))
			}
			due(t, p.path, 5, 45+c.Pause) // neither Fail nor Good is a use
			isOpen(t, p.path, 0, 0, false)
		}
	}
}

func TestErrorsAreInARow(t *testing.T) {
	p := made(t, api.Care{Max: 3, Fail: 1, Pause: 9}, 0)
	for range 50 {
		tells(t, p.Fail, false)
		is(t, p, api.Active, 1)
		tells(t, p.Good, false)
		is(t, p, api.Active, 0)
	}
}

func TestErrorsAndGoodLeaveAnOpenHeartbeat(t *testing.T) {
	p := made(t, usual(), 0)
	begins(t, p, 5, 1)
	for _, call := range []func() (bool, api.Errno){p.Fail, p.Fail, p.Fail, p.Fail, p.Good, p.Good} {
		call()
		isOpen(t, p, 1, 5, true)
	}
	hears(t, p, 1, 6, 1, false)
}

// P11.3

func TestUsed(t *testing.T) {
	p := made(t, usual(), 100)
	for _, c := range []struct{ now, last int }{
		{99, 100}, {0, 100}, {100, 100}, {101, 101}, {100, 101}, {5000, 5000}, {4999, 5000}, {5000, 5000},
		{maxTime - 40000, maxTime - 40000}, {0, maxTime - 40000}, {maxTime - 39999, maxTime - 39999},
	} {
		if e := p.Used(c.now); e != 0 {
			t.Errorf("Used(%d) = %d", c.now, e)
		}
		due(t, p, 1000, c.last+31000)
	}
}

func TestUsedAtTheGreatestTime(t *testing.T) {
	p := made(t, usual(), 0)
	if e := p.Used(maxTime); e != 0 {
		t.Errorf("Used = %d", e)
	}
	for _, now := range []int{0, 1, maxTime - 1, maxTime} {
		if e := p.Used(now); e != 0 {
			t.Errorf("Used(%d) = %d", now, e)
		}
		due(t, p, 1, maxTime)
	}
}

func TestUsedAtTimesThatAreNone(t *testing.T) {
	for _, now := range badTimes() {
		p := made(t, usual(), 100)
		was := *p
		if e := p.Used(now); e != 1 || *p != was {
			t.Errorf("Used(%d) = %d, %+v", now, e, *p)
		}
		due(t, p, 1000, 31100)
	}
}

func TestUsedAtEdges(t *testing.T) {
	for _, first := range []int{0, 1, 100, maxTime - 1, maxTime} {
		for _, second := range times() {
			for _, third := range times() {
				p := pairOf(t, usual(), first)
				if e := p.used(second); (e == 0) != goodTime(second) {
					t.Errorf("Used(%d) = %d", second, e)
				}
				p.look()
				p.used(third)
				p.look()
			}
		}
	}
}

// A use says nothing of errors or of a heartbeat.
func TestUsedChangesNothingElse(t *testing.T) {
	for errors := range 4 {
		p := at(t, usual(), 0, errors).path
		state := p.State()
		begins(t, p, 7, 1)
		p.Used(50)
		is(t, p, state, errors)
		isOpen(t, p, 1, 7, true)
	}
}

func TestAskOfEachState(t *testing.T) {
	for _, timer := range []int{1, 2, 1000, maxWait - 1, maxWait} {
		for _, pause := range []int{1, 30000, maxWait} {
			c := api.Care{Max: 2, Fail: 0, Pause: pause}
			for errors, want := range []int{70 + timer + pause, 70 + timer, 70 + timer, 70 + timer + pause, 70 + timer + pause} {
				due(t, at(t, c, 70, errors).path, timer, want)
			}
		}
	}
}

func TestAskOfTimersThatAreNone(t *testing.T) {
	for _, timer := range waits() {
		for errors := range 4 {
			p := at(t, usual(), 70, errors)
			was := *p.path
			n, e := p.ask(timer)
			if (e == 0) != goodWait(timer) || e > 1 || e != 0 && n != 0 || *p.path != was {
				t.Errorf("Ask(%d) = %d, %d", timer, n, e)
			}
		}
	}
}

// The sum is one below the greatest time, at it, and above it.
func TestAskNearTheGreatestTime(t *testing.T) {
	for _, timer := range []int{1, 1000, maxWait} {
		for _, pause := range []int{1, 30000, maxWait} {
			c := api.Care{Max: 2, Fail: 0, Pause: pause}
			for off, want := range []int{maxTime - 1, maxTime, maxTime, maxTime} {
				due(t, made(t, c, maxTime-timer-pause-1+off), timer, want)
				due(t, at(t, c, maxTime-timer-pause-1+off, 3).path, timer, want)
				due(t, at(t, c, min(maxTime-timer-1+off, maxTime), 1).path, timer, want)
			}
			for errors := range 4 {
				due(t, at(t, c, maxTime, errors).path, timer, maxTime)
			}
		}
	}
}

func TestAskOftenTellsTheSame(t *testing.T) {
	p := made(t, usual(), 9)
	begins(t, p, 10, 1)
	for range 10 {
		due(t, p, 5, 30015)
		due(t, p, 6, 30016)
		isOpen(t, p, 1, 10, true)
		is(t, p, api.Active, 0)
	}
}

// P11.4

func TestBeatsInARow(t *testing.T) {
	p := made(t, usual(), 0)
	for i := 1; i <= 300; i++ {
		begins(t, p, 10*i, uint32(i))
		isOpen(t, p, uint32(i), 10*i, true)
		beginsNot(t, p, 10*i+1, 111) // takes no number
		beginsNot(t, p, -1, 1)
		if i%3 == 0 {
			p.Missed()
		} else {
			hears(t, p, uint32(i), 10*i+4, 4, i%3 == 1 && i > 1) // behind one that was missed the path is Failing
		}
		isOpen(t, p, 0, 0, false)
		beginsNot(t, p, maxTime+1, 1)
	}
}

func TestBeatAtEdges(t *testing.T) {
	for _, now := range times() {
		p := pairOf(t, usual(), 5)
		number, e := p.beat(now)
		if goodTime(now) {
			if number != 1 || e != 0 {
				t.Errorf("Beat(%d) = %d, %d", now, number, e)
			}
			isOpen(t, p.path, 1, now, true)
		} else {
			if number != 0 || e != 1 {
				t.Errorf("Beat(%d) = %d, %d", now, number, e)
			}
			isOpen(t, p.path, 0, 0, false)
			begins(t, p.path, 6, 1)
		}
	}
}

// Of a time that is none and an open heartbeat the time is told.
func TestBeatWithOneOpen(t *testing.T) {
	for _, begun := range []int{0, 5, maxTime} {
		p := made(t, usual(), 0)
		begins(t, p, begun, 1)
		for _, now := range times() {
			if goodTime(now) {
				beginsNot(t, p, now, 111)
			} else {
				beginsNot(t, p, now, 1)
			}
			isOpen(t, p, 1, begun, true)
			due(t, p, 1, min(begun+30001, maxTime)) // a refused one is no use
		}
	}
}

func TestBeatIsAUse(t *testing.T) {
	p := made(t, usual(), 100)
	begins(t, p, 99, 1) // below the last use: it is open, but the path was used later
	isOpen(t, p, 1, 99, true)
	due(t, p, 1, 30101)
	tells(t, p.Missed, true)
	tells(t, p.Good, true)
	begins(t, p, 100, 2)
	due(t, p, 1, 30101)
	tells(t, p.Missed, true)
	tells(t, p.Good, true)
	begins(t, p, 101, 3)
	due(t, p, 1, 30102)
	tells(t, p.Missed, true)
	due(t, p, 1, 102)
	begins(t, p, 0, 4)
	isOpen(t, p, 4, 0, true)
	due(t, p, 1, 102)
}

func TestBeatLeavesErrors(t *testing.T) {
	for errors, state := range []api.PathState{1, 2, 2, 3} {
		p := at(t, usual(), 0, errors).path
		begins(t, p, 9, 1)
		is(t, p, state, errors)
	}
}

// Numbers are cut to 32 bits: behind the greatest one is 0. (Nobody waits for so many: the last one's number is laid in.)
func TestBeatsWrap(t *testing.T) {
	p := made(t, usual(), 0)
	p.number = math.MaxUint32 - 1
	for i, want := range []uint32{math.MaxUint32, 0, 1, 2} {
		begins(t, p, i, want)
		isOpen(t, p, want, i, true)
		hearsNot(t, p, want+1, i, 111)
		hearsNot(t, p, want-1, i, 111)
		hears(t, p, want, i, 0, false)
	}
}

// P11.5

func TestHeardOfNone(t *testing.T) {
	p := made(t, usual(), 0)
	for _, number := range []uint32{0, 1, 2, math.MaxUint32} {
		hearsNot(t, p, number, 5, 111)
	}
	begins(t, p, 5, 1)
	hears(t, p, 1, 5, 0, false)
	for _, number := range []uint32{0, 1, 2} { // it is over
		hearsNot(t, p, number, 6, 111)
	}
	begins(t, p, 7, 2)
	tells(t, p.Missed, true)
	for _, number := range []uint32{0, 1, 2, 3} {
		hearsNot(t, p, number, 8, 111)
	}
	is(t, p, api.Failing, 1)
}

func TestHeardOfAnotherNumber(t *testing.T) {
	p := made(t, usual(), 0)
	begins(t, p, 1, 1)
	hears(t, p, 1, 2, 1, false)
	begins(t, p, 3, 2)
	p.Missed()
	begins(t, p, 4, 3)
	for _, number := range []uint32{0, 1, 2, 4, 5, 3 + 1<<31, math.MaxUint32} {
		for _, now := range []int{0, 3, 4, 5, maxTime} {
			hearsNot(t, p, number, now, 111)
			isOpen(t, p, 3, 4, true)
		}
		hearsNot(t, p, number, -1, 1)
	}
	is(t, p, api.Failing, 1)
	hears(t, p, 3, 4, 0, true)
}

func TestHeardAtTimes(t *testing.T) {
	for _, begun := range []int{0, 1, 50, maxTime - 1, maxTime} {
		for _, now := range times() {
			p := made(t, usual(), 0)
			begins(t, p, begun, 1)
			switch {
			case !goodTime(now):
				hearsNot(t, p, 1, now, 1)
				isOpen(t, p, 1, begun, true)
			case now < begun:
				hearsNot(t, p, 1, now, 111)
				isOpen(t, p, 1, begun, true)
			default:
				hears(t, p, 1, now, now-begun, false)
				isOpen(t, p, 0, 0, false)
			}
		}
	}
	p := made(t, usual(), 0)
	begins(t, p, 50, 1)
	hearsNot(t, p, 1, 49, 111)
	hears(t, p, 1, 50, 0, false)
	begins(t, p, 50, 2)
	hears(t, p, 2, 51, 1, false)
}

// A time that is none is told ahead of all that may be wrong with the heartbeat.
func TestHeardWithSeveralErrors(t *testing.T) {
	for _, now := range badTimes() {
		p := made(t, usual(), 0)
		hearsNot(t, p, 1, now, 1)
		hearsNot(t, p, 0, now, 1)
		begins(t, p, maxTime, 1)
		hearsNot(t, p, 1, now, 1)
		hearsNot(t, p, 2, now, 1)
		isOpen(t, p, 1, maxTime, true)
		hearsNot(t, p, 2, 5, 111)
		hearsNot(t, p, 1, 5, 111)
	}
}

func TestHeardAtEachState(t *testing.T) {
	for errors, state := range []api.PathState{1, 2, 2, 3, 3} {
		p := at(t, usual(), 0, errors).path
		begins(t, p, 30, 1)
		is(t, p, state, min(errors, 3))
		hearsNot(t, p, 1, 29, 111)
		is(t, p, state, min(errors, 3))
		hears(t, p, 1, 1000, 970, errors > 0)
		is(t, p, api.Active, 0)
		isOpen(t, p, 0, 0, false)
		due(t, p, 1, 30031) // what is heard was not sent
	}
}

// Errors that leave a path Active are forgotten, too, but the state is no other one.
func TestHeardOfAnActivePathWithErrors(t *testing.T) {
	p := at(t, api.Care{Max: 5, Fail: 3, Pause: 9}, 0, 3).path
	begins(t, p, 0, 1)
	hears(t, p, 1, 4, 4, false)
	is(t, p, api.Active, 0)
}

func TestMissedAtEachState(t *testing.T) {
	for errors, c := range []struct {
		changed bool
		state   api.PathState
		errors  int
	}{{true, 2, 1}, {false, 2, 2}, {true, 3, 3}, {false, 3, 3}, {false, 3, 3}} {
		p := at(t, usual(), 0, errors).path
		begins(t, p, 30, 1)
		tells(t, p.Missed, c.changed)
		is(t, p, c.state, c.errors)
		isOpen(t, p, 0, 0, false)
		if c.state == api.Failing {
			due(t, p, 1, 31)
		} else {
			due(t, p, 1, 30031)
		}
	}
}

func TestMissedOfNone(t *testing.T) {
	for errors, state := range []api.PathState{1, 2, 2, 3} {
		p := at(t, usual(), 0, errors).path
		missesNot := func() {
			t.Helper()
			was := *p
			if yes, e := p.Missed(); yes || e != 111 || *p != was {
				t.Errorf("Missed = %v, %d; %+v, before %+v", yes, e, *p, was)
			}
		}
		missesNot()
		is(t, p, state, errors)
		begins(t, p, 3, 1)
		hears(t, p, 1, 4, 1, errors > 0)
		missesNot()
		begins(t, p, 5, 2)
		tells(t, p.Missed, true)
		missesNot()
		is(t, p, api.Failing, 1)
	}
}

func TestOpen(t *testing.T) {
	p := made(t, usual(), 9)
	isOpen(t, p, 0, 0, false)
	begins(t, p, 0, 1)
	isOpen(t, p, 1, 0, true)
	isOpen(t, p, 1, 0, true)
	hears(t, p, 1, 0, 0, false)
	isOpen(t, p, 0, 0, false)
	begins(t, p, maxTime, 2)
	isOpen(t, p, 2, maxTime, true)
	p.Missed()
	isOpen(t, p, 0, 0, false)
}

// P11.6

func TestDownAndUp(t *testing.T) {
	for _, c := range cares() {
		for before := range c.Max + 2 {
			p := at(t, c, 0, before).path
			for range c.Fail + 1 {
				p.Fail()
			}
			if p.State() < api.Failing {
				t.Errorf("%+v: State %d behind %d Fails more", c, p.State(), c.Fail+1)
			}
			for range c.Max - c.Fail {
				p.Fail()
			}
			is(t, p, api.Inactive, c.Max+1)
			tells(t, p.Good, true)
			is(t, p, api.Active, 0)
		}
	}
}

func TestDownByMissesAndUpByAnAnswer(t *testing.T) {
	for _, c := range cares() {
		p := made(t, c, 0)
		for i := 1; i <= c.Max+1; i++ {
			begins(t, p, i, uint32(i))
			tells(t, p.Missed, i == c.Fail+1 || i == c.Max+1)
		}
		is(t, p, api.Inactive, c.Max+1)
		begins(t, p, 200, uint32(c.Max+2))
		hears(t, p, uint32(c.Max+2), 201, 1, true)
		is(t, p, api.Active, 0)
	}
}

// P11.7

func TestOneAtATime(t *testing.T) {
	for _, first := range []int{0, 40, maxTime} {
		p := made(t, usual(), 0)
		begins(t, p, first, 1)
		for _, now := range []int{0, 1, 39, 40, 41, 1 << 32, maxTime} {
			beginsNot(t, p, now, 111)
			p.Fail()
			p.Used(now)
			p.Ask(5)
			p.Good()
			beginsNot(t, p, now, 111)
			isOpen(t, p, 1, first, true)
		}
		hears(t, p, 1, maxTime, maxTime-first, false)
		begins(t, p, first, 2)
	}
}

// Long mixed runs

// someTime is near the last times, at an edge, or any.
func someTime(r *rand.Rand, clock int) int {
	switch r.Intn(12) {
	case 0:
		list := times()
		return list[r.Intn(len(list))]
	case 1:
		return r.Intn(maxTime + 1)
	}
	return clock + r.Intn(60) - 20
}

// someNumber is that of the last heartbeat, one near it, or any.
func someNumber(r *rand.Rand, m *model) uint32 {
	switch r.Intn(6) {
	case 0:
		return uint32(len(m.beats) + r.Intn(5) - 2)
	case 1:
		return r.Uint32()
	}
	return uint32(len(m.beats))
}

// step makes one call.
func step(r *rand.Rand, p *pair, clock int) {
	p.t.Helper()
	switch r.Intn(8) {
	case 0, 1:
		p.fail()
	case 2:
		if r.Intn(4) == 0 {
			p.good()
		}
	case 3:
		p.used(someTime(r, clock))
	case 4, 5:
		p.beat(someTime(r, clock))
	case 6:
		p.heard(someNumber(r, p.model), someTime(r, clock))
	case 7:
		p.missed()
	}
}

func TestLongRuns(t *testing.T) {
	for seed := range int64(120) {
		r := rand.New(rand.NewSource(seed))
		c := api.Care{Max: r.Intn(1 + []int{2, 8, 100}[r.Intn(3)]), Pause: 1 + r.Intn(1<<r.Intn(32))}
		c.Fail = r.Intn(c.Max + 1)
		clock := r.Intn(1000)
		p := pairOf(t, c, clock)
		for range 600 {
			step(r, p, clock)
			p.look()
			clock += r.Intn(30)
		}
	}
}

// Two paths side by side know nothing of one another: each is as if it were alone.
func TestTwoPaths(t *testing.T) {
	for seed := range int64(40) {
		r := rand.New(rand.NewSource(seed))
		pairs := []*pair{pairOf(t, usual(), 0), pairOf(t, usual(), 0)}
		if pairs[0].path == pairs[1].path {
			t.Fatal("one path was told twice")
		}
		for clock := range 400 {
			i := r.Intn(2)
			other := *pairs[1-i].path
			step(r, pairs[i], clock)
			pairs[i].look()
			if *pairs[1-i].path != other {
				t.Fatal("a call changed another path")
			}
			pairs[1-i].look()
		}
	}
}

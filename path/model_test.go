package path

import (
	"slices"
	"testing"

	"ropewalk/api"
)

// The chapter's words once more, by other means: what the package is held against.

const (
	maxTime = 1099511627776
	maxWait = 2147483648
)

// beat is a heartbeat that began once.
type beat struct {
	begun int
	over  bool
}

// model keeps all that ever happened to a path, and works out what is so from the beginning on.
type model struct {
	care  api.Care
	fails []bool // true: an error; false: all of them forgotten
	uses  []int
	beats []beat
}

func modelNew(c api.Care, now int) (*model, api.Errno) {
	for _, n := range []int{c.Max, c.Fail} {
		if n < 0 || n > 100 {
			return nil, 110
		}
	}
	if c.Fail > c.Max || c.Pause <= 0 || c.Pause > maxWait {
		return nil, 110
	}
	if now < 0 || now > maxTime {
		return nil, 1
	}
	return &model{care: c, uses: []int{now}}, 0
}

// row is how many errors there are behind the last time when they were forgotten, Max + 1 of them at most.
func (m *model) row() int {
	n := 0
	for i := len(m.fails) - 1; i >= 0 && m.fails[i] && n <= m.care.Max; i-- {
		n++
	}
	return n
}

func (m *model) state() api.PathState {
	n := m.row()
	if n <= m.care.Fail {
		return 1
	}
	if n <= m.care.Max {
		return 2
	}
	return 3
}

func (m *model) note(fail bool) bool {
	was := m.state()
	m.fails = append(m.fails, fail)
	return was != m.state()
}

func (m *model) used(now int) api.Errno {
	if now < 0 || now > maxTime {
		return 1
	}
	m.uses = append(m.uses, now)
	return 0
}

func (m *model) ask(timer int) (int, api.Errno) {
	if timer < 1 || timer > maxWait {
		return 0, 1
	}
	wait := timer
	if m.state() != 2 {
		wait += m.care.Pause
	}
	last := slices.Max(m.uses)
	if wait > maxTime-last {
		return maxTime, 0
	}
	return last + wait, 0
}

// open is the place of the heartbeat that is open, or -1.
func (m *model) open() int {
	return slices.IndexFunc(m.beats, func(b beat) bool { return !b.over })
}

func (m *model) beat(now int) (uint32, api.Errno) {
	if now < 0 || now > maxTime {
		return 0, 1
	}
	if m.open() >= 0 {
		return 0, 111
	}
	m.uses = append(m.uses, now)
	m.beats = append(m.beats, beat{begun: now})
	return uint32(len(m.beats)), 0
}

func (m *model) heard(number uint32, now int) (int, bool, api.Errno) {
	if now < 0 || now > maxTime {
		return 0, false, 1
	}
	i := m.open()
	if i < 0 || uint32(i+1) != number || now < m.beats[i].begun {
		return 0, false, 111
	}
	m.beats[i].over = true
	return now - m.beats[i].begun, m.note(false), 0
}

func (m *model) missed() (bool, api.Errno) {
	i := m.open()
	if i < 0 {
		return false, 111
	}
	m.beats[i].over = true
	return m.note(true), 0
}

// pair is a path and its model, which get the same calls.
type pair struct {
	t     *testing.T
	path  *Path
	model *model
}

func pairOf(t *testing.T, c api.Care, now int) *pair {
	t.Helper()
	p, e := New(c, now)
	m, want := modelNew(c, now)
	if e != 0 || want != 0 || p == nil {
		t.Fatalf("New(%+v, %d) = %v, %d, want a path, %d", c, now, p, e, want)
	}
	return &pair{t, p, m}
}

// same: a call that was refused has changed nothing at all.
func (p *pair) same(was Path, e api.Errno) {
	p.t.Helper()
	if e != 0 && *p.path != was {
		p.t.Fatalf("with error %d, %+v has become %+v", e, was, *p.path)
	}
}

func (p *pair) fail() bool {
	p.t.Helper()
	yes, e := p.path.Fail()
	if want := p.model.note(true); yes != want || e != 0 {
		p.t.Fatalf("Fail = %v, %d, want %v", yes, e, want)
	}
	return yes
}

func (p *pair) good() bool {
	p.t.Helper()
	yes, e := p.path.Good()
	if want := p.model.note(false); yes != want || e != 0 {
		p.t.Fatalf("Good = %v, %d, want %v", yes, e, want)
	}
	return yes
}

func (p *pair) used(now int) api.Errno {
	p.t.Helper()
	was := *p.path
	e := p.path.Used(now)
	if want := p.model.used(now); e != want {
		p.t.Fatalf("Used(%d) = %d, want %d", now, e, want)
	}
	p.same(was, e)
	return e
}

func (p *pair) ask(timer int) (int, api.Errno) {
	p.t.Helper()
	was := *p.path
	due, e := p.path.Ask(timer)
	if wantDue, want := p.model.ask(timer); due != wantDue || e != want {
		p.t.Fatalf("Ask(%d) = %d, %d, want %d, %d", timer, due, e, wantDue, want)
	}
	if *p.path != was {
		p.t.Fatalf("Ask(%d): %+v has become %+v", timer, was, *p.path)
	}
	return due, e
}

func (p *pair) beat(now int) (uint32, api.Errno) {
	p.t.Helper()
	was := *p.path
	number, e := p.path.Beat(now)
	if wantNumber, want := p.model.beat(now); number != wantNumber || e != want {
		p.t.Fatalf("Beat(%d) = %d, %d, want %d, %d", now, number, e, wantNumber, want)
	}
	p.same(was, e)
	return number, e
}

func (p *pair) heard(number uint32, now int) (int, bool, api.Errno) {
	p.t.Helper()
	was := *p.path
	ago, yes, e := p.path.Heard(number, now)
	if wantAgo, wantYes, want := p.model.heard(number, now); ago != wantAgo || yes != wantYes || e != want {
		p.t.Fatalf("Heard(%d, %d) = %d, %v, %d, want %d, %v, %d", number, now, ago, yes, e, wantAgo, wantYes, want)
	}
	p.same(was, e)
	return ago, yes, e
}

func (p *pair) missed() (bool, api.Errno) {
	p.t.Helper()
	was := *p.path
	yes, e := p.path.Missed()
	if wantYes, want := p.model.missed(); yes != wantYes || e != want {
		p.t.Fatalf("Missed = %v, %d, want %v, %d", yes, e, wantYes, want)
	}
	p.same(was, e)
	return yes, e
}

// look holds all that a path tells against the model, and once more: looking changes nothing.
func (p *pair) look() {
	p.t.Helper()
	was := *p.path
	for range 2 {
		if s, n := p.path.State(), p.path.Errors(); s != p.model.state() || n != p.model.row() {
			p.t.Fatalf("State %d, Errors %d, want %d, %d", s, n, p.model.state(), p.model.row())
		}
		wantNumber, wantBegun := uint32(0), 0
		i := p.model.open()
		if i >= 0 {
			wantNumber, wantBegun = uint32(i+1), p.model.beats[i].begun
		}
		if number, begun, ok := p.path.Open(); number != wantNumber || begun != wantBegun || ok != (i >= 0) {
			p.t.Fatalf("Open = %d, %d, %v, want %d, %d, %v", number, begun, ok, wantNumber, wantBegun, i >= 0)
		}
		for _, timer := range waits() {
			p.ask(timer)
		}
	}
	if *p.path != was {
		p.t.Fatalf("%+v has become %+v", was, *p.path)
	}
}

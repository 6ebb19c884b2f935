package timers

import (
	"slices"
	"testing"

	"ropewalk/api"
)

// The chapter's words once more, by other means: what the package is held against.

const (
	most    = 4096
	maxTime = 1 << 40
)

// model is a plain list of what is set, in no order, which is searched from its beginning on.
type model struct {
	list []api.Due
	asks []int // all times that due had without an error
}

func (m *model) index(id int) int {
	for i, d := range m.list {
		if d.ID == id {
			return i
		}
	}
	return -1
}

func (m *model) set(id, due int) api.Errno {
	if id < 0 || id > 4095 {
		return 1
	}
	if due < 0 || due > maxTime {
		return 80
	}
	m.stop(id)
	m.list = append(m.list, api.Due{ID: id, Time: due})
	return 0
}

func (m *model) stop(id int) (bool, api.Errno) {
	if id < 0 || id > 4095 {
		return false, 1
	}
	i := m.index(id)
	if i < 0 {
		return false, 0
	}
	m.list = append(m.list[:i:i], m.list[i+1:]...)
	return true, 0
}

func (m *model) get(id int) (int, bool) {
	if i := m.index(id); i >= 0 {
		return m.list[i].Time, true
	}
	return 0, false
}

// next goes through the whole list.
func (m *model) next() (api.Due, bool) {
	var first api.Due
	for i, d := range m.list {
		if i == 0 || d.Time < first.Time || d.Time == first.Time && d.ID < first.ID {
			first = d
		}
	}
	return first, len(m.list) > 0
}

func (m *model) due(now int) ([]api.Due, api.Errno) {
	if now < 0 || now > maxTime {
		return nil, 80
	}
	for _, had := range m.asks {
		if now < had {
			return nil, 80
		}
	}
	m.asks = append(m.asks, now)
	var told []api.Due
	for d, ok := m.next(); ok && d.Time <= now; d, ok = m.next() {
		told = append(told, d)
		m.stop(d.ID)
	}
	return told, 0
}

func (m *model) all() []api.Due {
	rest := model{list: slices.Clone(m.list)}
	var all []api.Due
	for d, ok := rest.next(); ok; d, ok = rest.next() {
		all = append(all, d)
		rest.stop(d.ID)
	}
	return all
}

// pair is a table and its model, which get the same calls.
type pair struct {
	t     *testing.T
	table *Table
	model *model
}

// pairOf has these timers set, one behind the other.
func pairOf(t *testing.T, list ...api.Due) *pair {
	t.Helper()
	p := &pair{t, New(), &model{}}
	for _, d := range list {
		p.set(d.ID, d.Time)
	}
	return p
}

func (p *pair) set(id, due int) {
	p.t.Helper()
	if e, want := p.table.Set(id, due), p.model.set(id, due); e != want {
		p.t.Fatalf("Set(%d, %d) = %d, want %d", id, due, e, want)
	}
}

func (p *pair) stop(id int) {
	p.t.Helper()
	was, e := p.table.Stop(id)
	if wantWas, want := p.model.stop(id); was != wantWas || e != want {
		p.t.Fatalf("Stop(%d) = %v, %d, want %v, %d", id, was, e, wantWas, want)
	}
}

func (p *pair) get(id int) {
	p.t.Helper()
	at, ok := p.table.Get(id)
	if wantAt, want := p.model.get(id); at != wantAt || ok != want {
		p.t.Fatalf("Get(%d) = %d, %v, want %d, %v", id, at, ok, wantAt, want)
	}
}

func (p *pair) size() {
	p.t.Helper()
	if n := p.table.Len(); n != len(p.model.list) {
		p.t.Fatalf("Len = %d, want %d", n, len(p.model.list))
	}
}

func (p *pair) next() {
	p.t.Helper()
	d, ok := p.table.Next()
	if wantDue, want := p.model.next(); d != wantDue || ok != want {
		p.t.Fatalf("Next = %v, %v, want %v, %v", d, ok, wantDue, want)
	}
}

func (p *pair) due(now int) {
	p.t.Helper()
	told, e := p.table.Due(now)
	if wantTold, want := p.model.due(now); e != want || !slices.Equal(told, wantTold) {
		p.t.Fatalf("Due(%d) = %v, %d, want %v, %d", now, told, e, wantTold, want)
	}
}

func (p *pair) all() {
	p.t.Helper()
	if all, want := p.table.All(), p.model.all(); !slices.Equal(all, want) {
		p.t.Fatalf("All = %v, want %v", all, want)
	}
}

// look holds all that a table tells against the model, and once more: looking changes nothing.
func (p *pair) look() {
	p.t.Helper()
	for range 2 {
		p.size()
		p.next()
		p.all()
		for _, id := range ids() {
			p.get(id)
		}
		for _, d := range p.model.list {
			p.get(d.ID)
		}
	}
}

package net

import (
	"bytes"
	"slices"
	"testing"

	"ropewalk/api"
)

// The chapter's words once more, by other means: what the package is held against.

const (
	maxTime   = 1 << 40
	maxPacket = 65536
	maxFlying = 4096
)

// How a packet was put on its way, and what became of it.
const (
	bySend = iota
	byForge
	byTwice
	flies
	came
	lost
)

// fate is a packet's story.
type fate struct {
	end, path, now int
	bytes          []byte
	forged         bool
	by, state      int
}

// model is one list of all packets that there ever were, by their numbers, which is searched from its beginning on: a row is what of it flies there, a traffic is counted anew.
type model struct {
	paths int
	all   []*fate
	cuts  []bool
}

func newModel(paths int) *model { return &model{paths: paths, cuts: make([]bool, paths)} }

func (m *model) strange(end, path int) bool {
	return end != 0 && end != 1 || path < 0 || path > m.paths-1
}

// row are the numbers of what flies there.
func (m *model) row(end, path int) []int {
	var ids []int
	for id, f := range m.all {
		if f.end == end && f.path == path && f.state == flies {
			ids = append(ids, id)
		}
	}
	return ids
}

func (m *model) add(f fate) int {
	f.bytes = slices.Clone(f.bytes)
	f.state = flies
	if m.cuts[f.path] {
		f.state = lost
	}
	m.all = append(m.all, &f)
	return len(m.all) - 1
}

func (m *model) launch(end, path int, b []byte, now, by int) (int, api.Errno) {
	if m.strange(end, path) {
		return 0, 90
	}
	if now < 0 || now > maxTime {
		return 0, 1
	}
	if len(b) > maxPacket {
		return 0, 2
	}
	if len(m.row(end, path)) == maxFlying {
		return 0, 3
	}
	return m.add(fate{end: end, path: path, now: now, bytes: b, forged: by == byForge, by: by}), 0
}

// pick is the i-th one there.
func (m *model) pick(end, path, i int) (*fate, api.Errno) {
	if m.strange(end, path) {
		return nil, 90
	}
	for at, id := range m.row(end, path) {
		if at == i {
			return m.all[id], 0
		}
	}
	return nil, 91
}

func (m *model) take(end, path, i, state int) ([]byte, api.Errno) {
	f, e := m.pick(end, path, i)
	if e != 0 {
		return nil, e
	}
	f.state = state
	return f.bytes, 0
}

func (m *model) twice(end, path, i int) (int, api.Errno) {
	f, e := m.pick(end, path, i)
	if e != 0 {
		return 0, e
	}
	if len(m.row(end, path)) == maxFlying {
		return 0, 3
	}
	double := *f
	double.by = byTwice
	return m.add(double), 0
}

func (m *model) spoil(end, path, i, at int, bits byte) api.Errno {
	f, e := m.pick(end, path, i)
	if e != 0 {
		return e
	}
	if at < 0 || at >= len(f.bytes) {
		return 92
	}
	f.bytes[at] = (f.bytes[at] | bits) &^ (f.bytes[at] & bits)
	return 0
}

func (m *model) setCut(path int, cut bool) api.Errno {
	if m.strange(0, path) {
		return 90
	}
	m.cuts[path] = cut
	for _, f := range m.all {
		if cut && f.path == path && f.state == flies {
			f.state = lost
		}
	}
	return 0
}

func (m *model) works(path int) bool { return !m.strange(0, path) && !m.cuts[path] }

func (m *model) flying(end, path int) ([]api.Flight, api.Errno) {
	if m.strange(end, path) {
		return nil, 90
	}
	var list []api.Flight
	for _, id := range m.row(end, path) {
		f := m.all[id]
		list = append(list, api.Flight{ID: id, Sent: f.now, Len: len(f.bytes), Forged: f.forged})
	}
	return list, 0
}

func (m *model) traffic(end, path int) (x api.Traffic, e api.Errno) {
	if m.strange(end, path) {
		return x, 90
	}
	for _, f := range m.all {
		if f.end != end || f.path != path {
			continue
		}
		if f.by == byForge {
			x.Forged++
		} else {
			x.Sent++
		}
		if f.state == came {
			x.Delivered++
		}
		if f.state == lost {
			x.Lost++
		}
	}
	return x, 0
}

// pair is a network and its model, which get the same calls.
type pair struct {
	t     *testing.T
	net   *Net
	model *model
}

func pairOf(t *testing.T, paths int) *pair {
	t.Helper()
	n, e := New(paths)
	if n == nil || e != 0 {
		t.Fatalf("New(%d) = %v, %d", paths, n, e)
	}
	return &pair{t, n, newModel(paths)}
}

func (p *pair) send(end, path int, b []byte, now int) {
	p.t.Helper()
	id, e := p.net.Send(end, path, b, now)
	if wantID, want := p.model.launch(end, path, b, now, bySend); id != wantID || e != want {
		p.t.Fatalf("Send(%d, %d, %d bytes, %d) = %d, %d, want %d, %d", end, path, len(b), now, id, e, wantID, want)
	}
}

func (p *pair) forge(end, path int, b []byte, now int) {
	p.t.Helper()
	id, e := p.net.Forge(end, path, b, now)
	if wantID, want := p.model.launch(end, path, b, now, byForge); id != wantID || e != want {
		p.t.Fatalf("Forge(%d, %d, %d bytes, %d) = %d, %d, want %d, %d", end, path, len(b), now, id, e, wantID, want)
	}
}

func (p *pair) deliver(end, path, i int) {
	p.t.Helper()
	b, e := p.net.Deliver(end, path, i)
	if wantBytes, want := p.model.take(end, path, i, came); !bytes.Equal(b, wantBytes) || e != want {
		p.t.Fatalf("Deliver(%d, %d, %d) = %x, %d, want %x, %d", end, path, i, b, e, wantBytes, want)
	}
}

func (p *pair) drop(end, path, i int) {
	p.t.Helper()
	_, want := p.model.take(end, path, i, lost)
	if e := p.net.Drop(end, path, i); e != want {
		p.t.Fatalf("Drop(%d, %d, %d) = %d, want %d", end, path, i, e, want)
	}
}

func (p *pair) twice(end, path, i int) {
	p.t.Helper()
	id, e := p.net.Twice(end, path, i)
	if wantID, want := p.model.twice(end, path, i); id != wantID || e != want {
		p.t.Fatalf("Twice(%d, %d, %d) = %d, %d, want %d, %d", end, path, i, id, e, wantID, want)
	}
}

func (p *pair) spoil(end, path, i, at int, bits byte) {
	p.t.Helper()
	if e, want := p.net.Spoil(end, path, i, at, bits), p.model.spoil(end, path, i, at, bits); e != want {
		p.t.Fatalf("Spoil(%d, %d, %d, %d, %d) = %d, want %d", end, path, i, at, bits, e, want)
	}
}

func (p *pair) down(path int) {
	p.t.Helper()
	if e, want := p.net.Down(path), p.model.setCut(path, true); e != want {
		p.t.Fatalf("Down(%d) = %d, want %d", path, e, want)
	}
}

func (p *pair) up(path int) {
	p.t.Helper()
	if e, want := p.net.Up(path), p.model.setCut(path, false); e != want {
		p.t.Fatalf("Up(%d) = %d, want %d", path, e, want)
	}
}

func (p *pair) works(path int) {
	p.t.Helper()
	if works, want := p.net.Works(path), p.model.works(path); works != want {
		p.t.Fatalf("Works(%d) = %v, want %v", path, works, want)
	}
}

func (p *pair) flying(end, path int) {
	p.t.Helper()
	list, e := p.net.Flying(end, path)
	if wantList, want := p.model.flying(end, path); e != want || !slices.Equal(list, wantList) {
		p.t.Fatalf("Flying(%d, %d) = %v, %d, want %v, %d", end, path, list, e, wantList, want)
	}
}

func (p *pair) traffic(end, path int) {
	p.t.Helper()
	x, e := p.net.Traffic(end, path)
	if wantX, want := p.model.traffic(end, path); x != wantX || e != want {
		p.t.Fatalf("Traffic(%d, %d) = %v, %d, want %v, %d", end, path, x, e, wantX, want)
	}
}

// look holds all that a network tells against the model, and once more: looking changes nothing.
func (p *pair) look() {
	p.t.Helper()
	for range 2 {
		if n := p.net.Paths(); n != p.model.paths {
			p.t.Fatalf("Paths = %d, want %d", n, p.model.paths)
		}
		for path := -1; path <= p.model.paths; path++ {
			p.works(path)
			for end := -1; end <= 2; end++ {
				p.flying(end, path)
				p.traffic(end, path)
			}
		}
	}
}

// empty delivers all that flies, so that its bytes are held against the model's, too.
func (p *pair) empty() {
	p.t.Helper()
	for path := range p.model.paths {
		for end := range 2 {
			for range p.model.row(end, path) {
				p.deliver(end, path, 0)
			}
		}
	}
	p.look()
}

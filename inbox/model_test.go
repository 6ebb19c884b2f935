package inbox

import (
	"math"
	"slices"
	"testing"

	"ropewalk/api"
)

// The chapter's words once more, by other means: what the package is held against.

const (
	maxDelay = 500
	maxTime  = 1 << 40
	maxGaps  = 4096
	maxAhead = 65535
	all32    = 1 << 32
	top      = all32 - 1
	half     = 1 << 31
)

// whole is the distance from a to b by whole numbers that do not wrap.
func whole(a, b uint32) int64 {
	d := (int64(b) - int64(a) + all32) % all32
	if d >= half {
		d -= all32
	}
	return d
}

// model is a box: above has a number for each TSN above cum that came, and it says whether that one is fixed.
type model struct {
	nr       bool
	delay    int
	cum      uint32
	above    map[uint32]bool
	dups     []uint32
	packets  int
	reported bool
	due      []int // none, or one
}

func modelOf(first uint32, delay int, nr bool) *model {
	return &model{nr: nr, delay: delay, cum: uint32((int64(first) - 1 + all32) % all32), above: map[uint32]bool{}}
}

func (m *model) has(tsn uint32) bool {
	_, above := m.above[tsn]
	return above || whole(m.cum, tsn) <= 0
}

func (m *model) come(tsn uint32) (bool, api.Errno) {
	if m.has(tsn) {
		if len(m.dups) < maxGaps {
			m.dups = append(m.dups, tsn)
		}
		return false, 0
	}
	if whole(m.cum, tsn) > maxAhead {
		return false, 31
	}
	m.above[tsn] = false
	for _, next := m.above[m.cum+1]; next; _, next = m.above[m.cum+1] {
		m.cum++
		delete(m.above, m.cum)
	}
	return true, 0
}

func (m *model) drop(tsn uint32) bool {
	fixed, above := m.above[tsn]
	if above && !fixed {
		delete(m.above, tsn)
	}
	return above && !fixed
}

func (m *model) fix(tsns []uint32) int {
	n := 0
	for _, tsn := range tsns {
		if fixed, above := m.above[tsn]; above && !fixed {
			m.above[tsn] = true
			n++
		}
	}
	return n
}

func (m *model) heard(now int) api.Errno {
	if now < 0 || now > maxTime {
		return 1
	}
	m.packets++
	if len(m.dups) > 0 || m.packets > 1 || !m.reported {
		m.due = []int{now}
	} else {
		m.due = []int{now + m.delay}
	}
	return 0
}

// list is, by distances, what of the TSNs above cum is asked for.
func (m *model) list(ask func(fixed bool) bool) []uint32 {
	var list []uint32
	for tsn, fixed := range m.above {
		if ask(fixed) {
			list = append(list, tsn)
		}
	}
	slices.SortFunc(list, func(a, b uint32) int { return int(whole(m.cum, a) - whole(m.cum, b)) })
	return list
}

func every(bool) bool       { return true }
func fixed(fixed bool) bool { return fixed }
func loose(fixed bool) bool { return !fixed }

// blocks of TSNs in order.
func (m *model) blocks(tsns []uint32) []api.Gap {
	var gaps []api.Gap
	for _, tsn := range tsns {
		d := uint16(whole(m.cum, tsn))
		if n := len(gaps); n > 0 && gaps[n-1].End+1 == d {
			gaps[n-1].End = d
		} else {
			gaps = append(gaps, api.Gap{Start: d, End: d})
		}
	}
	return gaps
}

func firsts[T any](list []T, most int) []T { return list[:min(len(list), most)] }

func (m *model) report(window uint32, most int) (api.Chunk, api.Errno) {
	if most < 0 || most > maxGaps {
		return api.Chunk{}, 1
	}
	c := api.Chunk{Kind: 3, TSN: m.cum, Window: window, Dups: firsts(m.dups, most)}
	if m.nr {
		c.Kind = 16
		c.Gaps = firsts(m.blocks(m.list(loose)), most)
		c.NR = firsts(m.blocks(m.list(fixed)), most)
	} else {
		c.Gaps = firsts(m.blocks(m.list(every)), most)
	}
	m.dups, m.packets, m.reported, m.due = nil, 0, true, nil
	return c, 0
}

// sameChunk: all fields, one by one. Those that no report has are zero in both.
func sameChunk(a, b api.Chunk) bool {
	lists := slices.Equal(a.Gaps, b.Gaps) && slices.Equal(a.NR, b.NR) && slices.Equal(a.Dups, b.Dups)
	others := a.Flags == b.Flags && a.Stream == b.Stream && a.SSN == b.SSN && a.Proto == b.Proto && a.Tag == b.Tag && a.Out == b.Out && a.In == b.In
	return lists && others && a.Kind == b.Kind && a.TSN == b.TSN && a.Window == b.Window && len(a.Body)+len(b.Body) == 0 && len(a.Params)+len(b.Params) == 0
}

// spoil changes all that a slice reaches, behind its end too.
func spoil[T any](list []T, with T) {
	list = list[:cap(list)]
	for i := range list {
		list[i] = with
	}
}

func spoilChunk(c api.Chunk) {
	spoil(c.Gaps, api.Gap{Start: 9, End: 3})
	spoil(c.NR, api.Gap{Start: 9, End: 3})
	spoil(c.Dups, 77)
}

// pair is a box and its model, which get the same calls. What is handed in and what comes out is spoiled behind each call.
type pair struct {
	t     *testing.T
	box   *Box
	model *model
}

func made(t *testing.T, first uint32, delay int, nr bool) *Box {
	t.Helper()
	b, e := New(first, delay, nr)
	if b == nil || e != 0 {
		t.Fatalf("New(%d, %d, %v) = %v, %d", first, delay, nr, b, e)
	}
	return b
}

func pairOf(t *testing.T, first uint32, delay int, nr bool) *pair {
	t.Helper()
	p := &pair{t: t, box: made(t, first, delay, nr), model: modelOf(first, delay, nr)}
	p.look()
	return p
}

// pairs are of all kinds of reports, and wait for first TSNs near the wrap and far from it.
func pairs(t *testing.T) []*pair {
	t.Helper()
	var list []*pair
	for _, first := range []uint32{0, 1, 2, 1000, half - 1, half, half + 1, top - 70000, top - 2, top - 1, top} {
		list = append(list, pairOf(t, first, 200, true), pairOf(t, first, 200, false))
	}
	return list
}

func (p *pair) come(tsn uint32) (bool, api.Errno) {
	p.t.Helper()
	ok, e := p.box.Come(tsn)
	if wantOk, want := p.model.come(tsn); ok != wantOk || e != want {
		p.t.Fatalf("Come(%d) = %v, %d, want %v, %d", tsn, ok, e, wantOk, want)
	}
	return ok, e
}

// at are the TSNs at distances from cum as it is now.
func (p *pair) at(distances ...int64) []uint32 {
	var tsns []uint32
	for _, d := range distances {
		tsns = append(tsns, uint32((int64(p.model.cum)+d+2*all32)%all32))
	}
	return tsns
}

// new has TSNs come that did not.
func (p *pair) new(tsns ...uint32) {
	p.t.Helper()
	for _, tsn := range tsns {
		if ok, e := p.come(tsn); !ok || e != 0 {
			p.t.Fatalf("Come(%d) = %v, %d, want a new one", tsn, ok, e)
		}
	}
	p.look()
}

// twice has TSNs come that came already.
func (p *pair) twice(tsns ...uint32) {
	p.t.Helper()
	for _, tsn := range tsns {
		if ok, e := p.come(tsn); ok || e != 0 {
			p.t.Fatalf("Come(%d) = %v, %d, want a duplicate", tsn, ok, e)
		}
	}
	p.look()
}

// far has TSNs refused.
func (p *pair) far(tsns ...uint32) {
	p.t.Helper()
	for _, tsn := range tsns {
		if ok, e := p.come(tsn); ok || e != 31 {
			p.t.Fatalf("Come(%d) = %v, %d, want one too far ahead", tsn, ok, e)
		}
	}
	p.look()
}

// drops: each of them is dropped, or none is.
func (p *pair) drops(want bool, tsns ...uint32) {
	p.t.Helper()
	for _, tsn := range tsns {
		if ok := p.box.Drop(tsn); ok != want || p.model.drop(tsn) != want {
			p.t.Fatalf("Drop(%d) = %v, want %v", tsn, ok, want)
		}
		p.look()
	}
}

// fixes so many of them.
func (p *pair) fixes(want int, tsns ...uint32) {
	p.t.Helper()
	handed := append(make([]uint32, 0, len(tsns)+4), tsns...)
	n := p.box.Fix(handed...)
	if n != want || p.model.fix(tsns) != want {
		p.t.Fatalf("Fix(%v) = %d, want %d", tsns, n, want)
	}
	if !slices.Equal(handed, tsns) || slices.ContainsFunc(handed[len(tsns):cap(handed)], func(n uint32) bool { return n != 0 }) {
		p.t.Fatalf("Fix(%v) has changed what it was handed", tsns)
	}
	spoil(handed, 3)
	p.look()
}

func (p *pair) hears(want api.Errno, times ...int) {
	p.t.Helper()
	for _, now := range times {
		if e := p.box.Heard(now); e != want || p.model.heard(now) != want {
			p.t.Fatalf("Heard(%d) = %d, want %d", now, e, want)
		}
		p.look()
	}
}

// dueAt: a report is due at that time, twice asked.
func (p *pair) dueAt(want int) {
	p.t.Helper()
	for range 2 {
		if now, ok := p.box.Due(); now != want || !ok {
			p.t.Fatalf("Due = %d, %v, want %d", now, ok, want)
		}
	}
}

func (p *pair) notDue() {
	p.t.Helper()
	if now, ok := p.box.Due(); now != 0 || ok {
		p.t.Fatalf("Due = %d, %v, want nothing", now, ok)
	}
}

// report holds a Report against the model.
func (p *pair) report(window uint32, most int) api.Chunk {
	p.t.Helper()
	c, e := p.box.Report(window, most)
	want, wantE := p.model.report(window, most)
	if e != wantE || !sameChunk(c, want) {
		p.t.Fatalf("Report(%d, %d) = %+v, %d, want %+v, %d", window, most, c, e, want, wantE)
	}
	told := c
	told.Gaps, told.NR, told.Dups = slices.Clone(c.Gaps), slices.Clone(c.NR), slices.Clone(c.Dups)
	spoilChunk(c)
	p.look()
	return told
}

// look holds all that a box tells against the model. What is told is spoiled: it is the caller's.
func (p *pair) look() {
	p.t.Helper()
	for range 2 {
		p.lists()
		now, ok := p.box.Due()
		if ok != (len(p.model.due) == 1) || ok && now != p.model.due[0] || !ok && now != 0 {
			p.t.Fatalf("Due = %d, %v, want %v", now, ok, p.model.due)
		}
	}
	if p.box.Cum() != p.model.cum {
		p.t.Fatalf("Cum = %d, want %d", p.box.Cum(), p.model.cum)
	}
	for _, tsn := range p.at(math.MinInt32, math.MinInt32+1, -65536, -2, -1, 0, 1, 2, 3, 4, 5, 6, 7, 8, 9, 63, 64, 65, maxAhead-1, maxAhead, maxAhead+1, maxAhead+2, maxAhead+3, math.MaxInt32) {
		if p.box.Has(tsn) != p.model.has(tsn) {
			p.t.Fatalf("cum %d: Has(%d) = %v", p.model.cum, tsn, p.box.Has(tsn))
		}
	}
}

func (p *pair) lists() {
	p.t.Helper()
	for _, l := range []struct {
		name      string
		got, want []uint32
	}{
		{"Above", p.box.Above(), p.model.list(every)},
		{"Fixed", p.box.Fixed(), p.model.list(fixed)},
		{"Dups", p.box.Dups(), p.model.dups},
	} {
		if !slices.Equal(l.got, l.want) {
			p.t.Fatalf("cum %d: %s = %v, want %v", p.model.cum, l.name, l.got, l.want)
		}
		spoil(l.got, 9)
	}
}

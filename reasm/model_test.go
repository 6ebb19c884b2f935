package reasm

import (
	"bytes"
	"math"
	"reflect"
	"slices"
	"testing"

	"ropewalk/api"
)

// The chapter's words once more, by other means: what the package is held against.

const (
	maxStreams  = 1 << 10
	maxWindow   = 1 << 30
	maxBody     = 1<<16 - 5
	maxInFlight = 1 << 15
	maxAhead    = 65535
	all32       = 1 << 32
	top         = all32 - 1
	half        = 1 << 31
	isEnd       = 1
	isBegin     = 2
	isUnordered = 4
	isBoth      = isBegin + isEnd
	others      = 255 - isEnd - isBegin - isUnordered
)

// whole is the distance from a to b by whole numbers that do not wrap.
func whole(a, b uint32) int64 {
	d := (int64(b) - int64(a) + all32) % all32
	if d >= half {
		d -= all32
	}
	return d
}

func on(tsn uint32, n int64) uint32 { return uint32((int64(tsn) + n + 2*all32) % all32) }

// model is a table: all that is held is one map, and the rows that are whole are looked for in it anew behind each call.
type model struct {
	streams, limit int
	held           map[uint32]api.Chunk
	wholes         [][]uint32 // that wait, in the order in which they were whole
	begun          []int      // how many ordered messages of each stream were ready
	ready          []api.Message
	fixed          []uint32
}

func modelOf(streams, limit int) *model {
	return &model{streams: streams, limit: limit, held: map[uint32]api.Chunk{}, begun: make([]int, streams)}
}

func (m *model) bytes() int {
	n := 0
	for _, c := range m.held {
		n += len(c.Body)
	}
	for _, x := range m.ready {
		n += len(x.Data)
	}
	return n
}

func (m *model) put(c api.Chunk) api.Errno {
	_, held := m.held[c.TSN]
	switch {
	case c.Kind != 0 || len(c.Body) == 0 || len(c.Body) > maxBody:
		return 201
	case int(c.Stream) >= m.streams:
		return 160
	case held || slices.Contains(m.fixed, c.TSN):
		return 200
	case m.bytes()+len(c.Body) > m.limit:
		return 161
	case len(m.held)+len(m.fixed) >= maxInFlight:
		return 3
	}
	c.Body = bytes.Clone(c.Body)
	m.held[c.TSN] = c
	m.settle()
	return 0
}

func (m *model) take() (api.Message, bool) {
	if len(m.ready) == 0 {
		return api.Message{}, false
	}
	x := m.ready[0]
	m.ready = m.ready[1:]
	return x, true
}

func (m *model) drop(tsn uint32) bool {
	_, held := m.held[tsn]
	delete(m.held, tsn)
	m.settle()
	return held
}

func (m *model) move(cum uint32) {
	m.fixed = slices.DeleteFunc(m.fixed, func(tsn uint32) bool { return whole(cum, tsn) <= 0 })
}

func (m *model) fixedFrom(cum uint32) []uint32 {
	var list []uint32
	for _, tsn := range m.fixed {
		if d := whole(cum, tsn); d >= 1 && d <= maxAhead {
			list = append(list, tsn)
		}
	}
	slices.SortFunc(list, func(a, b uint32) int { return int(whole(cum, a) - whole(cum, b)) })
	return list
}

func (m *model) chunks() []uint32 {
	var list []uint32
	for tsn := range m.held {
		list = append(list, tsn)
	}
	slices.Sort(list)
	return list
}

// rowFrom is the whole row that begins with a TSN, if there is one.
func (m *model) rowFrom(tsn uint32) []uint32 {
	c, held := m.held[tsn]
	if !held || c.Flags&isBegin == 0 {
		return nil
	}
	row := []uint32{tsn}
	for c.Flags&isEnd == 0 {
		next, held := m.held[on(c.TSN, 1)]
		fits := next.Stream == c.Stream && next.SSN == c.SSN && next.Flags&isUnordered == c.Flags&isUnordered && next.Flags&isBegin == 0
		if !held || !fits {
			return nil
		}
		row = append(row, next.TSN)
		c = next
	}
	return row
}

// settle keeps the rows that are still whole, takes in those that are so now, and makes messages of those that are ready.
func (m *model) settle() {
	m.wholes = slices.DeleteFunc(m.wholes, func(row []uint32) bool { return !slices.Equal(row, m.rowFrom(row[0])) })
	for tsn := range m.held { // one at most is whole anew: their order plays no part
		row := m.rowFrom(tsn)
		if row != nil && !slices.ContainsFunc(m.wholes, func(had []uint32) bool { return had[0] == tsn }) {
			m.wholes = append(m.wholes, row)
		}
	}
	for at := m.ripe(); at >= 0; at = m.ripe() {
		m.make(m.wholes[at])
		m.wholes = slices.Delete(m.wholes, at, at+1)
	}
}

// ripe is the place of the first whole row that is ready, or -1.
func (m *model) ripe() int {
	return slices.IndexFunc(m.wholes, func(row []uint32) bool {
		c := m.held[row[0]]
		return c.Flags&isUnordered != 0 || m.begun[c.Stream]%65536 == int(c.SSN)
	})
}

func (m *model) make(row []uint32) {
	c := m.held[row[0]]
	x := api.Message{Stream: c.Stream, Proto: c.Proto}
	if c.Flags&isUnordered != 0 {
		x.Unordered = true
	} else {
		x.SSN = c.SSN
		m.begun[c.Stream]++
	}
	for _, tsn := range row {
		x.Data = append(x.Data, m.held[tsn].Body...)
		delete(m.held, tsn)
		m.fixed = append(m.fixed, tsn)
	}
	m.ready = append(m.ready, x)
}

func sameMessage(a, b api.Message) bool {
	data := bytes.Equal(a.Data, b.Data)
	a.Data, b.Data = nil, nil
	return data && reflect.DeepEqual(a, b)
}

// spoil changes all that a slice reaches, behind its end too.
func spoil[T any](list []T, with T) {
	list = list[:cap(list)]
	for i := range list {
		list[i] = with
	}
}

// roomy is a copy with more room than it needs.
func roomy(body []byte) []byte {
	if body == nil {
		return nil
	}
	return append(make([]byte, 0, len(body)+3), body...)
}

// pair is a table and its model, which get the same calls. What is handed in and what comes out is spoiled behind each call.
type pair struct {
	t     *testing.T
	table *Table
	model *model
	base  uint32 // from which on TSNs are counted
}

func made(t *testing.T, streams, limit int) *Table {
	t.Helper()
	x, e := New(streams, limit)
	if x == nil || e != 0 {
		t.Fatalf("New(%d, %d) = %v, %d", streams, limit, x, e)
	}
	return x
}

func pairOf(t *testing.T, streams, limit int, base uint32) *pair {
	t.Helper()
	p := &pair{t: t, table: made(t, streams, limit), model: modelOf(streams, limit), base: base}
	p.look()
	return p
}

func bases() []uint32 {
	return []uint32{0, 1, 1000, half - 2, half, top - 70000, top - 5, top - 2, top - 1, top}
}

// pairs are empty ones, whose TSNs are counted from numbers near the wrap and far from it.
func pairs(t *testing.T, streams, limit int) []*pair {
	t.Helper()
	var list []*pair
	for _, base := range bases() {
		list = append(list, pairOf(t, streams, limit, base))
	}
	return list
}

// data is a chunk so far from a pair's base, of stream 0.
func (p *pair) data(d int64, flags uint8, ssn uint16, body string) api.Chunk {
	return api.Chunk{Flags: flags, TSN: on(p.base, d), SSN: ssn, Body: []byte(body)}
}

func (p *pair) on(ds ...int64) []uint32 {
	var tsns []uint32
	for _, d := range ds {
		tsns = append(tsns, on(p.base, d))
	}
	return tsns
}

// put puts one, and holds the answer against the model.
func (p *pair) put(c api.Chunk) api.Errno {
	p.t.Helper()
	body := bytes.Clone(c.Body)
	c.Body = roomy(c.Body)
	handed := c
	e := p.table.Put(handed)
	if want := p.model.put(c); e != want {
		p.t.Fatalf("Put(%+v) = %d, want %d", c, e, want)
	}
	room := c.Body[len(c.Body):cap(c.Body)]
	if !bytes.Equal(c.Body, body) || slices.ContainsFunc(room, func(b byte) bool { return b != 0 }) {
		p.t.Fatalf("Put has changed the body %v to %v", body, c.Body)
	}
	spoil(c.Body, '#')
	p.look()
	return e
}

// puts each of them, and all are held.
func (p *pair) puts(chunks ...api.Chunk) {
	p.t.Helper()
	p.refuses(0, chunks...)
}

// refuses each of them with that error.
func (p *pair) refuses(want api.Errno, chunks ...api.Chunk) {
	p.t.Helper()
	for _, c := range chunks {
		if e := p.put(c); e != want {
			p.t.Fatalf("Put(%+v) = %d, want %d", c, e, want)
		}
	}
}

// take takes one, and holds it against the model.
func (p *pair) take() (api.Message, bool) {
	p.t.Helper()
	x, ok := p.table.Take()
	if want, wantOk := p.model.take(); ok != wantOk || !sameMessage(x, want) {
		p.t.Fatalf("Take = %+v, %v, want %+v, %v", x, ok, want, wantOk)
	}
	told := x
	told.Data = bytes.Clone(x.Data)
	spoil(x.Data, '#')
	p.look()
	return told, ok
}

// takes those with these texts, and no more are ready.
func (p *pair) takes(texts ...string) {
	p.t.Helper()
	for _, want := range texts {
		if x, ok := p.take(); !ok || string(x.Data) != want {
			p.t.Fatalf("Take = %q, %v, want %q", x.Data, ok, want)
		}
	}
	p.empty()
}

// empty: no message is ready.
func (p *pair) empty() {
	p.t.Helper()
	if x, ok := p.take(); ok || !sameMessage(x, api.Message{}) || p.table.Ready() != 0 {
		p.t.Fatalf("Take = %+v, %v, want none", x, ok)
	}
}

// readies: so many are ready.
func (p *pair) readies(want int) {
	p.t.Helper()
	if n := p.table.Ready(); n != want {
		p.t.Fatalf("Ready = %d, want %d", n, want)
	}
}

// drops: each of them was held, or none was.
func (p *pair) drops(want bool, tsns ...uint32) {
	p.t.Helper()
	for _, tsn := range tsns {
		if ok, e := p.table.Drop(tsn); ok != want || e != 0 || p.model.drop(tsn) != want {
			p.t.Fatalf("Drop(%d) = %v, %d, want %v", tsn, ok, e, want)
		}
		p.look()
	}
}

func (p *pair) move(cum uint32) {
	p.t.Helper()
	if e := p.table.Move(cum); e != 0 {
		p.t.Fatalf("Move(%d) = %d", cum, e)
	}
	p.model.move(cum)
	p.look()
}

// fixed: from that far on just these are, as far from the base.
func (p *pair) fixed(cum int64, want ...int64) {
	p.t.Helper()
	if l := p.table.Fixed(on(p.base, cum)); !slices.Equal(l, p.on(want...)) {
		p.t.Fatalf("base %d: Fixed of %d further on = %v, want %v further on", p.base, cum, l, want)
	}
}

// look holds all that a table tells against the model. What is told is spoiled: it is the caller's.
func (p *pair) look() {
	p.t.Helper()
	for range 2 {
		held, ready := p.table.Held(), p.table.Ready()
		if held != p.model.bytes() || ready != len(p.model.ready) || held > p.model.limit {
			p.t.Fatalf("Held %d, Ready %d, want %d, %d of %d", held, ready, p.model.bytes(), len(p.model.ready), p.model.limit)
		}
		chunks := p.table.Chunks()
		if !slices.Equal(chunks, p.model.chunks()) {
			p.t.Fatalf("Chunks = %v, want %v", chunks, p.model.chunks())
		}
		spoil(chunks, 9)
		for _, d := range []int64{math.MinInt32, -65536, -65535, -2, -1, 0, 1, 2, 5, 9, 65535, half - 1} {
			cum := on(p.base, d)
			fixed := p.table.Fixed(cum)
			if !slices.Equal(fixed, p.model.fixedFrom(cum)) {
				p.t.Fatalf("Fixed(%d) = %v, want %v", cum, fixed, p.model.fixedFrom(cum))
			}
			spoil(fixed, 9)
		}
	}
}

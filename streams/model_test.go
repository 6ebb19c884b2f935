package streams

import (
	"bytes"
	"slices"
	"testing"

	"ropewalk/api"
)

// The chapter's words once more, by other means: what the package is held against.

const (
	maxStreams = 1 << 10
	maxWindow  = 1 << 30
	maxMessage = 1 << 16
)

// pushed is a message that was taken in, whole, with how many of its bytes went out.
type pushed struct {
	api.Message
	out int
}

func (m *pushed) left() int { return len(m.Data) - m.out }

// model is one list of all messages that were ever pushed, of all streams, and the log of those that were begun.
type model struct {
	streams, limit int
	list           []*pushed
	log            []*pushed // in the order in which they were begun
	freed          int
}

func (m *model) waiting() int {
	n := 0
	for _, x := range m.list {
		n += x.left()
	}
	return n
}

func (m *model) taken() int {
	n := -m.freed
	for _, x := range m.list {
		n += x.out
	}
	return n
}

func (m *model) push(stream uint16, proto uint32, unordered bool, data []byte) api.Errno {
	if int(stream) >= m.streams {
		return 160
	}
	if len(data) == 0 || len(data) > maxMessage {
		return 2
	}
	if m.waiting()+m.taken()+len(data) > m.limit {
		return 161
	}
	m.list = append(m.list, &pushed{Message: api.Message{Stream: stream, Proto: proto, Unordered: unordered, Data: bytes.Clone(data)}})
	return 0
}

// turn is how many streams have their turn ahead of this one.
func (m *model) turn(stream uint16) int {
	if len(m.log) == 0 {
		return int(stream)
	}
	behind := int(m.log[len(m.log)-1].Stream) + 1
	return (int(stream) + m.streams - behind) % m.streams
}

// first is the message whose piece is the next one, or nil.
func (m *model) first() *pushed {
	var best *pushed
	for _, x := range m.list {
		switch {
		case x.left() == 0:
		case x.out > 0:
			return x
		case best == nil || m.turn(x.Stream) < m.turn(best.Stream):
			best = x
		}
	}
	return best
}

// number is how many ordered messages of the stream were begun so far, of 16 bits.
func (m *model) number(x *pushed) uint16 {
	n := 0
	for _, had := range m.log {
		if had.Stream == x.Stream && !had.Unordered && !x.Unordered {
			n++
		}
	}
	return uint16(n % 65536)
}

func (m *model) take(n int) (api.Part, bool) {
	x := m.first()
	if x == nil || n < 1 {
		return api.Part{}, false
	}
	begin := x.out == 0
	if begin {
		x.SSN = m.number(x)
		m.log = append(m.log, x)
	}
	p := api.Part{Message: x.Message, Begin: begin, End: n >= x.left()}
	p.Data = nil
	for ; n > 0 && x.left() > 0; n-- {
		p.Data = append(p.Data, x.Data[x.out])
		x.out++
	}
	return p, true
}

func (m *model) free(n int) api.Errno {
	if n < 0 || n > m.taken() {
		return 5
	}
	m.freed += n
	return 0
}

func (m *model) next() (uint16, int, bool) {
	if x := m.first(); x != nil {
		return x.Stream, x.left(), true
	}
	return 0, 0, false
}

func (m *model) count(stream uint16) int {
	n := 0
	for _, x := range m.list {
		if x.Stream == stream && x.left() > 0 {
			n++
		}
	}
	return n
}

func samePart(p, q api.Part) bool {
	return p.Stream == q.Stream && p.SSN == q.SSN && p.Proto == q.Proto && p.Unordered == q.Unordered &&
		p.Begin == q.Begin && p.End == q.End && bytes.Equal(p.Data, q.Data)
}

// spoil changes all that a slice reaches, behind its end too.
func spoil(b []byte) {
	b = b[:cap(b)]
	for i := range b {
		b[i] ^= 0xa5
	}
}

// pair is a queue and its model, which get the same calls. What is handed in and what comes out is spoiled behind each call.
type pair struct {
	t     *testing.T
	queue *Queue
	model *model
	parts []api.Part // all that were taken
}

func pairOf(t *testing.T, streams, limit int) *pair {
	t.Helper()
	return &pair{t: t, queue: made(t, streams, limit), model: &model{streams: streams, limit: limit}}
}

func made(t *testing.T, streams, limit int) *Queue {
	t.Helper()
	q, e := New(streams, limit)
	if q == nil || e != 0 {
		t.Fatalf("New(%d, %d) = %v, %d", streams, limit, q, e)
	}
	return q
}

func (p *pair) push(stream uint16, proto uint32, unordered bool, data []byte) api.Errno {
	p.t.Helper()
	roomy := append(make([]byte, 0, len(data)+8), data...)
	e := p.queue.Push(stream, proto, unordered, roomy...)
	if want := p.model.push(stream, proto, unordered, data); e != want {
		p.t.Fatalf("Push(%d, %d, %v) of %d bytes = %d, want %d", stream, proto, unordered, len(data), e, want)
	}
	if !bytes.Equal(roomy, data) || slices.Max(append(roomy[len(data):cap(roomy)], 0)) != 0 {
		p.t.Fatalf("Push(%d) of %d bytes has changed them", stream, len(data))
	}
	spoil(roomy)
	return e
}

// put is a push of an ordered text that must go.
func (p *pair) put(stream uint16, text string) {
	p.t.Helper()
	p.need(p.push(stream, uint32(stream)*1000+uint32(len(text)), false, []byte(text)))
}

// loose is one of an unordered text.
func (p *pair) loose(stream uint16, text string) {
	p.t.Helper()
	p.need(p.push(stream, uint32(stream)*1000+uint32(len(text)), true, []byte(text)))
}

func (p *pair) need(e api.Errno) {
	p.t.Helper()
	if e != 0 {
		p.t.Fatalf("refused: %d", e)
	}
}

// take holds a piece, and what Next tells ahead of it, against the model.
func (p *pair) take(n int) (api.Part, bool) {
	p.t.Helper()
	stream, left, there := p.next()
	got, ok := p.queue.Take(n)
	want, wantOK := p.model.take(n)
	if ok != wantOK || !samePart(got, want) {
		p.t.Fatalf("Take(%d) = %+v, %v, want %+v, %v", n, got, ok, want, wantOK)
	}
	if ok != (there && n >= 1) || ok && (got.Stream != stream || len(got.Data) != min(n, left) || got.End != (n >= left)) {
		p.t.Fatalf("Take(%d) = %+v, %v, but Next = %d, %d, %v", n, got, ok, stream, left, there)
	}
	spoil(got.Data)
	if ok {
		p.parts = append(p.parts, want)
	}
	return want, ok
}

// takes is a piece that must come, told in short: its stream, "(" if it is the first one, its data, ")" if it is the last one.
func (p *pair) takes(n int) string {
	p.t.Helper()
	got, ok := p.take(n)
	if !ok {
		return "none"
	}
	return short(got)
}

func (p *pair) free(n int) api.Errno {
	p.t.Helper()
	e := p.queue.Free(n)
	if want := p.model.free(n); e != want {
		p.t.Fatalf("Free(%d) = %d, want %d", n, e, want)
	}
	return e
}

func (p *pair) next() (uint16, int, bool) {
	p.t.Helper()
	stream, left, ok := p.queue.Next()
	if s, l, o := p.model.next(); stream != s || left != l || ok != o {
		p.t.Fatalf("Next = %d, %d, %v, want %d, %d, %v", stream, left, ok, s, l, o)
	}
	return stream, left, ok
}

func (p *pair) count(stream uint16) int {
	p.t.Helper()
	n := p.queue.Count(stream)
	if want := p.model.count(stream); n != want {
		p.t.Fatalf("Count(%d) = %d, want %d", stream, n, want)
	}
	return n
}

// bytes holds what is held, waiting and taken, and that it is within the limit.
func (p *pair) bytes() {
	p.t.Helper()
	held, waiting, taken := p.queue.Held(), p.queue.Waiting(), p.queue.Taken()
	if waiting != p.model.waiting() || taken != p.model.taken() || held != waiting+taken {
		p.t.Fatalf("Held, Waiting, Taken = %d, %d, %d, want %d and %d", held, waiting, taken, p.model.waiting(), p.model.taken())
	}
	if held > p.model.limit {
		p.t.Fatalf("Held = %d, above %d", held, p.model.limit)
	}
}

// look holds all that a queue tells against the model, and once more: looking changes nothing.
func (p *pair) look() {
	p.t.Helper()
	for range 2 {
		p.bytes()
		p.next()
		for stream := range min(p.model.streams, 6) {
			p.count(uint16(stream))
		}
		for _, stream := range []int{p.model.streams - 1, p.model.streams, maxStreams, 65535} {
			p.count(uint16(stream))
		}
	}
}

// drain takes and frees all that waits, by n bytes each, and holds each piece against the model: so all that was kept is seen.
func (p *pair) drain(n int) {
	p.t.Helper()
	for {
		p.look()
		piece, ok := p.take(n)
		if !ok {
			break
		}
		p.free(len(piece.Data))
	}
	p.free(p.queue.Taken())
	if p.queue.Held() != 0 || p.queue.Waiting() != 0 || p.queue.Taken() != 0 {
		p.t.Fatalf("Held, Waiting, Taken = %d, %d, %d behind all", p.queue.Held(), p.queue.Waiting(), p.queue.Taken())
	}
}

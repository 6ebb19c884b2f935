package outbox

import (
	"bytes"
	"math"
	"reflect"
	"slices"
	"strconv"
	"strings"
	"testing"

	"ropewalk/api"
)

// The chapter's words once more, by other means: what the package is held against.

const (
	maxPaths    = 8
	maxTime     = 1 << 40
	maxMessage  = 1 << 16
	maxInFlight = 1 << 15
	all32       = 1 << 32

	flying api.OutState = 1
	marked api.OutState = 2
	acked  api.OutState = 3
	freed  api.OutState = 4
)

// whole is the distance from a to b by whole numbers that do not wrap.
func whole(a, b uint32) int64 {
	d := (int64(b) - int64(a) + all32) % all32
	if d >= all32/2 {
		d -= all32
	}
	return d
}

// put is a chunk that was put, with its TSN as a number that does not go round.
type put struct {
	api.Out
	at int64
}

func (x *put) bytes() int { return len(x.Part.Data) }

// model is every chunk that was put and is not reported up to; put and free are counted over all calls.
type model struct {
	paths     int
	cum, next int64
	list      []*put
	put, free int
}

func modelOf(first uint32, paths int) *model {
	next := int64(first) + all32 // so that nothing is below 0
	return &model{paths: paths, cum: next - 1, next: next}
}

func (m *model) okPath(path int) bool { return 0 <= path && path <= m.paths-1 }

func okTime(now int) bool { return 0 <= now && now <= maxTime }

func (m *model) doPut(path int, p api.Part, now int) (uint32, api.Errno) {
	if !m.okPath(path) {
		return 0, 90
	}
	if !okTime(now) || len(p.Data) == 0 || len(p.Data) > maxMessage {
		return 0, 1
	}
	if len(m.list) == maxInFlight {
		return 0, 3
	}
	p.Data = bytes.Clone(p.Data)
	x := &put{at: m.next, Out: api.Out{TSN: uint32(m.next % all32), Path: path, Times: 1, Sent: now, State: flying, Part: p}}
	m.list = append(m.list, x)
	m.put += x.bytes()
	m.next++
	return x.TSN, 0
}

// least is, of those that are asked for, the one with the least TSN, or nil.
func (m *model) least(ask func(*put) bool) *put {
	var best *put
	for _, x := range m.list {
		if ask(x) && (best == nil || x.at < best.at) {
			best = x
		}
	}
	return best
}

func (m *model) sum(ask func(*put) bool) int {
	n := 0
	for _, x := range m.list {
		if ask(x) {
			n += x.bytes()
		}
	}
	return n
}

func isMarked(x *put) bool { return x.State == marked }

func fliesOn(path int) func(*put) bool {
	return func(x *put) bool { return x.State == flying && x.Path == path }
}

func openOn(path int) func(*put) bool {
	return func(x *put) bool { return (x.State == flying || x.State == marked) && x.Path == path }
}

func (m *model) again(path, now int) (api.Out, bool, api.Errno) {
	if !m.okPath(path) {
		return api.Out{}, false, 90
	}
	if !okTime(now) {
		return api.Out{}, false, 1
	}
	x := m.least(isMarked)
	if x == nil {
		return api.Out{}, false, 0
	}
	x.State, x.Path, x.Times, x.Sent, x.Missing = flying, path, x.Times+1, now, 0
	return x.Out, true, 0
}

func (m *model) timeout(path int) (int, api.Errno) {
	if !m.okPath(path) {
		return 0, 90
	}
	n := 0
	for x := m.least(fliesOn(path)); x != nil; x = m.least(fliesOn(path)) {
		x.State, x.Missing = marked, 0
		n += x.bytes()
	}
	return n, 0
}

// blocks are those that count, and those of them that tell for good.
func blocks(c api.Chunk) (every, firm []api.Gap) {
	if c.Kind == 16 {
		firm = c.NR
	}
	return append(slices.Clone(c.Gaps), firm...), firm
}

func (m *model) refuse(c api.Chunk, now int) api.Errno {
	every, _ := blocks(c)
	if c.Kind != 3 && c.Kind != 16 {
		return 172
	}
	for _, g := range every {
		if g.Start == 0 || g.End < g.Start {
			return 172
		}
	}
	if !okTime(now) {
		return 1
	}
	if whole(c.TSN, uint32(m.cum%all32)) > 0 {
		return 170
	}
	next := uint32(m.next % all32)
	if whole(next, c.TSN) >= 0 {
		return 171
	}
	for _, g := range every {
		for n := int64(g.Start); n <= int64(g.End); n++ {
			if whole(next, c.TSN+uint32(n)) >= 0 {
				return 171
			}
		}
	}
	return 0
}

// tells: a report of the TSN at, with these blocks.
func tells(x *put, at int64, list []api.Gap) bool {
	return x.at <= at || slices.ContainsFunc(list, func(g api.Gap) bool {
		return int64(g.Start) <= x.at-at && x.at-at <= int64(g.End)
	})
}

func (m *model) report(c api.Chunk, now int) (api.Report, api.Errno) {
	if e := m.refuse(c, now); e != 0 {
		return api.Report{}, e
	}
	at := m.cum + whole(uint32(m.cum%all32), c.TSN)
	every, firm := blocks(c)
	newly := map[*put]bool{}
	for _, x := range m.list {
		newly[x] = openOn(x.Path)(x) && tells(x, at, every)
	}
	var r api.Report
	for path := range m.paths {
		r.Paths = append(r.Paths, m.ofPath(path, now, newly))
	}
	for _, x := range m.list {
		if x.State == acked && !tells(x, at, every) {
			x.State, x.Missing = marked, 0
			r.Reneged += x.bytes()
		}
	}
	for _, x := range m.list {
		if x.State != freed && tells(x, at, firm) {
			r.Free += x.bytes()
			x.State = freed
		} else if newly[x] {
			x.State = acked
		}
	}
	m.missing(&r, newly)
	m.cum = at
	m.list = slices.DeleteFunc(m.list, func(x *put) bool { return x.at <= at })
	m.free += r.Free
	return r, 0
}

// ofPath is the first two steps of a report.
func (m *model) ofPath(path, now int, newly map[*put]bool) api.Acked {
	first := m.least(openOn(path))
	a := api.Acked{Moved: first != nil && newly[first], Trip: -1}
	var last *put
	for _, x := range m.list {
		if !newly[x] || x.Path != path {
			continue
		}
		a.Bytes += x.bytes()
		if x.Times == 1 && (last == nil || x.at > last.at) {
			last = x
		}
	}
	if last != nil {
		a.Trip = max(0, now-last.Sent)
	}
	return a
}

// missing is the fifth step.
func (m *model) missing(r *api.Report, newly map[*put]bool) {
	for _, x := range m.list {
		later := slices.ContainsFunc(m.list, func(y *put) bool {
			return newly[y] && y.Path == x.Path && y.at > x.at && !(y.Sent < x.Sent)
		})
		if x.State != flying || !later {
			continue
		}
		x.Missing++
		if x.Missing == 3 && !x.Quick {
			x.State, x.Quick, x.Missing = marked, true, 0
			r.Paths[x.Path].Lost += x.bytes()
		}
	}
}

func (m *model) all() []api.Out {
	var list []api.Out
	for _, x := range m.list {
		list = append(list, x.Out)
	}
	return list
}

func sameOut(a, b api.Out) bool {
	same := bytes.Equal(a.Part.Data, b.Part.Data)
	a.Part.Data, b.Part.Data = nil, nil
	return same && reflect.DeepEqual(a, b)
}

func sameReport(a, b api.Report) bool {
	return a.Free == b.Free && a.Reneged == b.Reneged && slices.Equal(a.Paths, b.Paths)
}

// spoil changes all that a slice reaches, behind its end too.
func spoil(b []byte) {
	b = b[:cap(b)]
	for i := range b {
		b[i] ^= 0xa5
	}
}

// roomy is a copy with room behind its end.
func roomy[T any](list []T) []T { return append(make([]T, 0, len(list)+4), list...) }

// untouched: a roomy copy is as it was, its room too.
func untouched[T comparable](list, was []T) bool {
	var zero T
	behind := list[len(list):cap(list)]
	return slices.Equal(list, was) && !slices.ContainsFunc(behind, func(x T) bool { return x != zero })
}

// pair is a box and its model, which get the same calls. What is handed in and what comes out is spoiled behind each call.
type pair struct {
	t     *testing.T
	box   *Box
	model *model
}

func made(t *testing.T, first uint32, paths int) *Box {
	t.Helper()
	b, e := New(first, paths)
	if b == nil || e != 0 {
		t.Fatalf("New(%d, %d) = %v, %d", first, paths, b, e)
	}
	return b
}

func pairOf(t *testing.T, first uint32, paths int) *pair {
	t.Helper()
	return &pair{t: t, box: made(t, first, paths), model: modelOf(first, paths)}
}

// put holds a Put against the model.
func (p *pair) put(path int, part api.Part, now int) api.Errno {
	p.t.Helper()
	handed := part
	handed.Data = roomy(part.Data)
	tsn, e := p.box.Put(path, handed, now)
	wantTSN, want := p.model.doPut(path, part, now)
	if tsn != wantTSN || e != want {
		p.t.Fatalf("Put(%d, %d bytes, %d) = %d, %d, want %d, %d", path, len(part.Data), now, tsn, e, wantTSN, want)
	}
	if !untouched(handed.Data, part.Data) {
		p.t.Fatalf("Put(%d) has changed what it was handed", path)
	}
	spoil(handed.Data)
	return e
}

// puts puts one part of 10 bytes on each path that is told, at a time; each must go.
func (p *pair) puts(now int, paths ...int) {
	p.t.Helper()
	for _, path := range paths {
		if e := p.put(path, p.part(10), now); e != 0 {
			p.t.Fatalf("Put(%d) = %d", path, e)
		}
	}
}

// part is one of n bytes, whose fields are no other part's.
func (p *pair) part(n int) api.Part {
	k := int(p.model.next % 251)
	data := make([]byte, n)
	for i := range data {
		data[i] = byte(i*7 + k)
	}
	m := api.Message{Stream: uint16(k + 1), SSN: uint16(k + 2), Proto: uint32(k + 3), Unordered: k%2 == 0, Data: data}
	return api.Part{Message: m, Begin: k%3 == 0, End: k%5 == 0}
}

func (p *pair) again(path, now int) (api.Out, bool, api.Errno) {
	p.t.Helper()
	got, ok, e := p.box.Again(path, now)
	want, wantOK, wantE := p.model.again(path, now)
	if !sameOut(got, want) || ok != wantOK || e != wantE {
		p.t.Fatalf("Again(%d, %d) = %+v, %v, %d, want %+v, %v, %d", path, now, got, ok, e, want, wantOK, wantE)
	}
	spoil(got.Part.Data)
	return want, ok, e
}

func (p *pair) timeout(path int) (int, api.Errno) {
	p.t.Helper()
	n, e := p.box.Timeout(path)
	if want, wantE := p.model.timeout(path); n != want || e != wantE {
		p.t.Fatalf("Timeout(%d) = %d, %d, want %d, %d", path, n, e, want, wantE)
	}
	return n, e
}

// report holds a Report against the model, and what follows from it: that only paths of which something is newly told lose anything.
func (p *pair) report(c api.Chunk, now int) (api.Report, api.Errno) {
	p.t.Helper()
	handed := c
	handed.Gaps, handed.NR = roomy(c.Gaps), roomy(c.NR)
	ahead := p.box.All()
	got, e := p.box.Report(handed, now)
	want, wantE := p.model.report(c, now)
	if !sameReport(got, want) || e != wantE {
		p.t.Fatalf("Report(%+v, %d) = %+v, %d, want %+v, %d", c, now, got, e, want, wantE)
	}
	if !untouched(handed.Gaps, c.Gaps) || !untouched(handed.NR, c.NR) {
		p.t.Fatalf("Report(%+v) has changed what it was handed", c)
	}
	if e == 0 {
		p.splits(ahead, got)
		p.once()
	}
	for i := range got.Paths {
		got.Paths[i] = api.Acked{Bytes: -7, Trip: -7, Lost: -7}
	}
	clear(handed.Gaps[:cap(handed.Gaps)])
	clear(handed.NR[:cap(handed.NR)])
	return want, e
}

// splits: chunks that fly on a path of which nothing is newly told stay as they were (P17.7).
func (p *pair) splits(ahead []api.Out, r api.Report) {
	p.t.Helper()
	behind := map[uint32]api.Out{}
	for _, o := range p.box.All() {
		behind[o.TSN] = o
	}
	for _, was := range ahead {
		is, kept := behind[was.TSN]
		if kept && was.State == flying && r.Paths[was.Path].Bytes == 0 && !sameOut(was, is) {
			p.t.Fatalf("nothing was told of path %d, but %+v is %+v", was.Path, was, is)
		}
	}
	for path, a := range r.Paths {
		if a.Bytes == 0 && (a.Lost != 0 || a.Moved || a.Trip != -1) {
			p.t.Fatalf("nothing was told of path %d, but %+v", path, a)
		}
	}
}

// once: what all reports freed is what was put and is not kept, or Freed (P17.6).
func (p *pair) once() {
	p.t.Helper()
	held := 0
	for _, o := range p.box.All() {
		if o.State != freed {
			held += len(o.Part.Data)
		}
	}
	if p.model.free+held != p.model.put {
		p.t.Fatalf("%d bytes were put, %d freed, %d are held", p.model.put, p.model.free, held)
	}
}

// takes is a report that must go.
func (p *pair) takes(c api.Chunk, now int) api.Report {
	p.t.Helper()
	r, e := p.report(c, now)
	if e != 0 {
		p.t.Fatalf("Report(%+v, %d) = %d", c, now, e)
	}
	return r
}

// comes is a report that must go, and come to this.
func (p *pair) comes(c api.Chunk, now int, want api.Report) {
	p.t.Helper()
	if got := p.takes(c, now); !sameReport(got, want) {
		p.t.Errorf("Report(%+v, %d) = %+v, want %+v", c, now, got, want)
	}
	p.look()
}

// look holds all that a box tells against the model, and once more: looking changes nothing, and what was told is the caller's own.
func (p *pair) look() {
	p.t.Helper()
	for range 2 {
		p.lookAll()
		p.lookMarked()
		total := 0
		for path := range p.model.paths {
			total += p.model.sum(fliesOn(path))
		}
		if got := p.box.Total(); got != total {
			p.t.Fatalf("Total = %d, want %d", got, total)
		}
		for _, path := range []int{math.MinInt, -1, 0, 1, 2, 3, 4, 5, 6, 7, 8, 1 << 32, math.MaxInt} {
			p.lookPath(path)
		}
	}
}

func (p *pair) lookAll() {
	p.t.Helper()
	got, want := p.box.All(), p.model.all()
	if !slices.EqualFunc(got, want, sameOut) {
		p.t.Fatalf("All = %+v, want %+v", got, want)
	}
	if cum, next := uint32(p.model.cum%all32), uint32(p.model.next%all32); p.box.Cum() != cum || p.box.Next() != next || p.box.Len() != len(want) {
		p.t.Fatalf("Cum, Next, Len = %d, %d, %d, want %d, %d, %d", p.box.Cum(), p.box.Next(), p.box.Len(), cum, next, len(want))
	}
	for i := range got {
		spoil(got[i].Part.Data)
		got[i] = api.Out{}
	}
}

func (p *pair) lookMarked() {
	p.t.Helper()
	n, got, ok := p.box.Marked()
	x := p.model.least(isMarked)
	want := api.Out{}
	if x != nil {
		want = x.Out
	}
	if n != p.model.sum(isMarked) || !sameOut(got, want) || ok != (x != nil) {
		p.t.Fatalf("Marked = %d, %+v, %v, want %d, %+v", n, got, ok, p.model.sum(isMarked), want)
	}
	spoil(got.Part.Data)
}

func (p *pair) lookPath(path int) {
	p.t.Helper()
	x := p.model.least(fliesOn(path))
	want := api.Out{}
	if x != nil {
		want = x.Out
	}
	if got, ok := p.box.First(path); !sameOut(got, want) || ok != (x != nil) {
		p.t.Fatalf("First(%d) = %+v, %v, want %+v", path, got, ok, want)
	} else {
		spoil(got.Part.Data)
	}
	if n := p.box.Flying(path); n != p.model.sum(fliesOn(path)) {
		p.t.Fatalf("Flying(%d) = %d, want %d", path, n, p.model.sum(fliesOn(path)))
	}
}

// is holds the kept chunks against a text: of each its TSN, its state (F, M, A, X), its path; then, if there are any, "." and Missing, "x" and Times above 1, "q" if it is Quick.
func (p *pair) is(want string) {
	p.t.Helper()
	p.look()
	var list []string
	for _, o := range p.box.All() {
		list = append(list, short(o))
	}
	if got := strings.Join(list, " "); got != want {
		p.t.Errorf("kept: %s, want %s", got, want)
	}
}

func short(o api.Out) string {
	text := strconv.Itoa(int(o.TSN)) + "?FMAX"[o.State:o.State+1] + strconv.Itoa(o.Path)
	if o.Missing != 0 {
		text += "." + strconv.Itoa(o.Missing)
	}
	if o.Times != 1 {
		text += "x" + strconv.Itoa(o.Times)
	}
	if o.Quick {
		text += "q"
	}
	return text
}

// gaps are blocks by their ends: gaps(2, 3, 5, 5) are 2-3 and 5-5.
func gaps(ends ...uint16) []api.Gap {
	var list []api.Gap
	for pair := range slices.Chunk(ends, 2) {
		list = append(list, api.Gap{Start: pair[0], End: pair[1]})
	}
	return list
}

func sack(tsn uint32, ends ...uint16) api.Chunk {
	return api.Chunk{Kind: 3, TSN: tsn, Gaps: gaps(ends...)}
}

// firm is an NR-SACK with blocks that tell for good.
func firm(tsn uint32, ends ...uint16) api.Chunk {
	return api.Chunk{Kind: 16, TSN: tsn, NR: gaps(ends...)}
}

// mixed is an NR-SACK with blocks of both.
func mixed(tsn uint32, loose, firm []api.Gap) api.Chunk {
	return api.Chunk{Kind: 16, TSN: tsn, Gaps: loose, NR: firm}
}

// none is what a report comes to that tells nothing new.
func none(paths int) api.Report {
	return api.Report{Paths: slices.Repeat([]api.Acked{{Trip: -1}}, paths)}
}

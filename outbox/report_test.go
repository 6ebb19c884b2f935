package outbox

import (
	"math/rand"
	"slices"
	"testing"

	"ropewalk/api"
)

// P17.4: what is refused

// refused is a report that must be refused, with nothing changed.
func (p *pair) refused(c api.Chunk, now int, want api.Errno) {
	p.t.Helper()
	if r, e := p.report(c, now); e != want || !sameReport(r, api.Report{}) {
		p.t.Errorf("Report(%+v, %d) = %+v, %d, want %d", c, now, r, e, want)
	}
	p.look()
}

func TestReportOfOtherKinds(t *testing.T) {
	p := several(t)
	for kind := range 256 {
		c := api.Chunk{Kind: api.ChunkKind(kind), TSN: 12, Gaps: gaps(2, 2), NR: gaps(4, 4)}
		if kind != 3 && kind != 16 {
			p.refused(c, 9, 172)
		}
	}
	p.is("13F0.1 14A1 15M2 16X0 17F0 18F1 19M2 20F0")
	for _, kind := range []api.ChunkKind{3, 16} {
		p.takes(api.Chunk{Kind: kind, TSN: 12, Gaps: gaps(2, 2), NR: gaps(4, 4)}, 9)
		p.is("13F0.1 14A1 15M2 16X0 17F0 18F1 19M2 20F0")
	}
}

func TestReportNotInOrder(t *testing.T) {
	p := several(t)
	bad := [][]api.Gap{gaps(0, 0), gaps(0, 3), gaps(2, 1), gaps(65535, 1), gaps(3, 2), gaps(0, 65535), gaps(65535, 65534)}
	for _, list := range bad {
		for _, with := range [][]api.Gap{nil, gaps(2, 3)} {
			row, back := append(slices.Clone(with), list...), append(slices.Clone(list), with...)
			for _, g := range [][]api.Gap{row, back} {
				p.refused(api.Chunk{Kind: 3, TSN: 12, Gaps: g}, 9, 172)
				p.refused(api.Chunk{Kind: 16, TSN: 12, Gaps: g}, 9, 172)
				p.refused(api.Chunk{Kind: 16, TSN: 12, NR: g}, 9, 172)
				p.refused(api.Chunk{Kind: 16, TSN: 12, Gaps: with, NR: g}, 9, 172)
			}
		}
	}
	p.is("13F0.1 14A1 15M2 16X0 17F0 18F1 19M2 20F0")
}

// What NR says plays no part in a SACK, be it in order or not, sent or not.
func TestNRPlaysNoPartInSack(t *testing.T) {
	for _, nr := range [][]api.Gap{gaps(0, 0), gaps(3, 2), gaps(1, 8), gaps(1, 9), gaps(1, 65535), gaps(1, 1, 0, 1)} {
		p := several(t)
		c := sack(12, 2, 2)
		c.NR = nr
		p.comes(c, 9, none(3))
		p.is("13F0.1 14A1 15M2 16X0 17F0 18F1 19M2 20F0")
	}
}

// Nor do the fields of other kinds in both.
func TestOtherFieldsPlayNoPart(t *testing.T) {
	p, q := several(t), several(t)
	for _, kind := range []api.ChunkKind{3, 16} {
		c := api.Chunk{Kind: kind, TSN: 12, Gaps: gaps(1, 2)}
		full := c
		full.Flags, full.Stream, full.SSN, full.Proto, full.Tag, full.Window, full.Out, full.In = 255, 1, 2, 3, 4, 5, 6, 7
		full.Dups, full.Body, full.Params = []uint32{1, 13, 99}, []byte{1}, []api.Param{{Type: 1}}
		if a, b := p.takes(c, 9), q.takes(full, 9); !sameReport(a, b) {
			t.Errorf("%+v, %+v", a, b)
		}
		p.is("13A0.1 14A1 15M2 16X0 17F0 18F1 19M2 20F0")
		q.is("13A0.1 14A1 15M2 16X0 17F0 18F1 19M2 20F0")
	}
}

func TestReportAtTimes(t *testing.T) {
	for _, now := range append(wrongTimes(), 0, 1, maxTime-1, maxTime) {
		p := several(t)
		if !okTime(now) {
			p.refused(sack(13), now, 1)
			p.refused(firm(12, 1, 1), now, 1)
			continue
		}
		p.comes(sack(13, 1, 1), now, api.Report{Paths: []api.Acked{{Bytes: 10, Moved: true, Trip: max(now-5, 0)}, {Trip: -1}, {Trip: -1}}, Free: 10})
	}
}

func TestReportOfTSNs(t *testing.T) {
	const half = 1 << 31
	for _, c := range []struct {
		up   uint32 // above cum, which is 12; Next is 9 above it
		want api.Errno
	}{
		{0, 0}, {1, 0}, {7, 0}, {8, 0}, {9, 171}, {10, 171}, {1 << 16, 171}, {half - 1, 171},
		{half, 171}, {half + 1, 170}, {half + 2, 170}, {half + 9, 170}, {half + 10, 170},
		{top, 170}, {top - 1, 170}, {top - 11, 170}, {top - 12, 170},
	} {
		for _, blocks := range [][]uint16{nil, {1, 1}, {65535, 65535}, {1, 65535}} {
			for _, kind := range []func(uint32, ...uint16) api.Chunk{sack, firm} {
				p := several(t)
				switch want := c.want; {
				case want == 0 && blocks == nil:
					p.takes(kind(12+c.up), 9)
					p.look()
				case want == 0 && (blocks[1] > 1 || c.up == 8):
					p.refused(kind(12+c.up, blocks...), 9, 171)
				case want == 0:
					p.takes(kind(12+c.up, blocks...), 9)
					p.look()
				default:
					p.refused(kind(12+c.up, blocks...), 9, want)
				}
			}
		}
	}
}

// A TSN far ahead stays one though a block of it lies behind half of all numbers.
func TestFarTSNWithBlocks(t *testing.T) {
	p := several(t)
	for d := range uint32(12) {
		p.refused(sack(12+1<<31-d, 1, 65535), 9, 171)
		p.refused(sack(12+1<<31-d, 65535, 65535), 9, 171)
		p.refused(firm(12+1<<31-d, 1, uint16(d)+1), 9, 171)
	}
}

func TestReportOfBlocksUpToNext(t *testing.T) {
	for up := range uint32(8) {
		last := uint16(8 - up) // the distance of Next less 1
		for start := uint16(1); start <= last+2; start++ {
			for end := start; end <= last+3; end++ {
				for _, c := range []api.Chunk{sack(12+up, start, end), firm(12+up, start, end), mixed(12+up, gaps(start, end), nil), mixed(12+up, gaps(1, 1), gaps(start, end))} {
					p := several(t)
					if end > last {
						p.refused(c, 9, 171)
					} else {
						p.takes(c, 9)
						p.look()
					}
				}
			}
		}
	}
	p := several(t)
	for _, g := range [][]api.Gap{gaps(1, 1, 9, 9), gaps(9, 9, 1, 1), gaps(1, 9, 1, 2), gaps(2, 65535), gaps(65535, 65535)} {
		p.refused(mixed(12, g, nil), 9, 171)
		p.refused(mixed(12, nil, g), 9, 171)
		p.refused(mixed(12, gaps(1, 8), g), 9, 171)
		p.refused(mixed(12, g, gaps(1, 8)), 9, 171)
	}
}

func TestReportOfEmptyBox(t *testing.T) {
	for _, first := range []uint32{0, 1, 1 << 31, top} {
		p := pairOf(t, first, 2)
		p.comes(sack(first-1), 0, none(2))
		p.comes(firm(first-1), maxTime, none(2))
		p.refused(sack(first), 0, 171)
		p.refused(sack(first-2), 0, 170)
		p.refused(sack(first-1, 1, 1), 0, 171)
		p.refused(firm(first-1, 1, 1), 0, 171)
		if p.box.Cum() != first-1 || p.box.Next() != first {
			t.Errorf("Cum, Next = %d, %d", p.box.Cum(), p.box.Next())
		}
	}
}

func TestReportErrorsInOrder(t *testing.T) {
	p := several(t)
	for _, tsn := range []uint32{11, 12, 13, 20, 21, 22, 12 + 1<<31, top} {
		for _, now := range []int{-1, 5, maxTime + 1} {
			for _, end := range []uint16{1, 65535} {
				p.refused(api.Chunk{Kind: 0, TSN: tsn, Gaps: gaps(1, end)}, now, 172)
				p.refused(api.Chunk{Kind: 7, TSN: tsn}, now, 172)
				p.refused(sack(tsn, 1, end, 0, 1), now, 172)
				p.refused(mixed(tsn, gaps(1, end), gaps(3, 2)), now, 172)
			}
		}
		for _, now := range []int{-1, maxTime + 1} {
			p.refused(sack(tsn), now, 1)
			p.refused(sack(tsn, 1, 65535), now, 1)
			p.refused(firm(tsn, 65535, 65535), now, 1)
		}
	}
	for _, tsn := range []uint32{11, 0, top} { // its blocks tell of what was not sent, too
		p.refused(sack(tsn, 65535, 65535), 5, 170)
		p.refused(firm(tsn, 1, 65535), 5, 170)
	}
	p.is("13F0.1 14A1 15M2 16X0 17F0 18F1 19M2 20F0")
}

// What blocks tell

func TestBlocksInAnyShape(t *testing.T) {
	for _, first := range []uint32{1, top - 4, top - 5, top} {
		for _, list := range [][]api.Gap{
			gaps(2, 4, 6, 7), gaps(6, 7, 2, 4), gaps(2, 3, 3, 4, 6, 7), gaps(2, 4, 2, 4, 6, 7, 6, 7),
			gaps(7, 7, 6, 6, 4, 4, 3, 3, 2, 2), gaps(2, 4, 3, 3, 6, 7), gaps(3, 3, 2, 4, 6, 6, 6, 7), gaps(6, 7, 2, 2, 2, 3, 2, 4),
		} {
			for _, c := range []api.Chunk{{Kind: 3, TSN: first - 1, Gaps: list}, {Kind: 16, TSN: first - 1, NR: list}, {Kind: 16, TSN: first - 1, Gaps: list}, {Kind: 16, TSN: first - 1, Gaps: list, NR: list}} {
				p := pairOf(t, first, 1)
				p.puts(5, 0, 0, 0, 0, 0, 0, 0, 0)
				want := api.Report{Paths: []api.Acked{{Bytes: 50, Trip: 4}}}
				if c.NR != nil {
					want.Free = 50
				}
				p.comes(c, 9, want)
				for i, o := range p.box.All() {
					told := i != 0 && i != 4 && i != 7
					if told != (o.State == acked && c.NR == nil || o.State == freed && c.NR != nil) || o.TSN != first+uint32(i) {
						t.Errorf("%+v behind %+v", o, c)
					}
				}
			}
		}
	}
}

func TestManyBlocks(t *testing.T) {
	b := full(t, top-20000)
	var list []api.Gap
	for i := range 50000 { // far more than a packet has: nothing bounds them
		list = append(list, api.Gap{Start: uint16(1 + i%1000), End: uint16(maxInFlight - i%2000 - 1)})
	}
	r, e := b.Report(api.Chunk{Kind: 16, TSN: b.Cum(), Gaps: list, NR: list[:10]}, 9)
	if e != 0 || r.Paths[0].Bytes+r.Paths[1].Bytes != maxInFlight-1 || r.Free != maxInFlight-1 {
		t.Errorf("Report = %+v, %d", r, e)
	}
}

// Step 1: Moved

func TestMoved(t *testing.T) {
	for _, c := range []struct {
		chunk api.Chunk
		moved [4]bool // path 3 has no chunk
	}{
		{sack(0), [4]bool{}},
		{sack(1), [4]bool{true}},
		{sack(2), [4]bool{true, true}},
		{sack(0, 1, 1), [4]bool{true}},
		{sack(0, 2, 2), [4]bool{false, true}},
		{sack(0, 4, 4), [4]bool{false, false, false}},
		{sack(0, 3, 3), [4]bool{false, false, true}},
		{sack(0, 4, 6), [4]bool{false, false, false}},
		{sack(0, 1, 3), [4]bool{true, true, true}},
		{firm(0, 1, 1, 3, 3), [4]bool{true, false, true}},
		{sack(6), [4]bool{true, true, true}},
	} {
		p := pairOf(t, 1, 4)
		p.puts(5, 0, 1, 2, 0, 1, 2)
		r := p.takes(c.chunk, 9)
		for path, want := range c.moved {
			if r.Paths[path].Moved != want {
				t.Errorf("Report(%+v): Moved of %d is %v", c.chunk, path, !want)
			}
		}
		p.look()
	}
}

// Which chunk is the first one is found among those that are Flying or Marked, ahead of all else that a report does.
func TestMovedOfMarkedAndPassedOver(t *testing.T) {
	moved := func(c api.Chunk, ready func(*pair)) bool {
		t.Helper()
		p := pairOf(t, 1, 2)
		p.puts(5, 0, 0, 0)
		ready(p)
		r := p.takes(c, 9)
		p.look()
		return r.Paths[0].Moved
	}
	nothing := func(*pair) {}
	timeout := func(p *pair) { p.timeout(0) }
	acked := func(p *pair) { p.takes(sack(0, 1, 1), 9) }
	firmly := func(p *pair) { p.takes(firm(0, 1, 1), 9) }
	elsewhere := func(p *pair) { p.timeout(0); p.again(1, 8) }
	all := func(p *pair) { p.takes(sack(0, 1, 3), 9) }
	for i, c := range []struct {
		chunk api.Chunk
		ready func(*pair)
		want  bool
	}{
		{sack(1), nothing, true}, {sack(0, 2, 3), nothing, false},
		{sack(1), timeout, true}, {sack(0, 1, 1), timeout, true}, {sack(0, 2, 2), timeout, false},
		{sack(1), acked, false}, {sack(0, 1, 2), acked, true}, {sack(0, 1, 1, 3, 3), acked, false}, {sack(2), acked, true},
		{sack(0, 2, 2), acked, true}, // the one that is given up by this report was not Marked ahead of it
		{sack(0, 2, 2), firmly, true}, {sack(1), firmly, false}, {sack(0, 3, 3), firmly, false},
		{sack(1), elsewhere, false}, {sack(0, 2, 2), elsewhere, true}, // the first one is the other path's now
		{sack(3), all, false}, {sack(0, 1, 3), all, false}, {sack(0), all, false},
	} {
		if got := moved(c.chunk, c.ready); got != c.want {
			t.Errorf("%d: Moved is %v", i, got)
		}
	}
}

// Step 2: Bytes and Trip

func TestBytesByPathOfLastSending(t *testing.T) {
	p := pairOf(t, 1, 3)
	for i, n := range []int{1, 20, 300, 4000} {
		p.put(i%2, p.part(n), 5)
	}
	p.timeout(0)
	p.again(2, 8)
	p.is("1F2x2 2F1 3M0 4F1")
	p.comes(sack(4), 9, api.Report{Paths: []api.Acked{{Bytes: 300, Moved: true, Trip: 4}, {Bytes: 4020, Moved: true, Trip: 4}, {Bytes: 1, Moved: true, Trip: -1}}, Free: 4321})
}

func TestBytesOfNewlyToldAlone(t *testing.T) {
	p := pairOf(t, 1, 1)
	p.puts(5, 0, 0, 0, 0, 0)
	for i, want := range []int{10, 10, 20, 0, 10} {
		ends := [][]uint16{{2, 2}, {2, 2, 4, 4}, {1, 4}, {1, 4}, {1, 5}}[i]
		if r := p.takes(sack(0, ends...), 9); r.Paths[0].Bytes != want {
			t.Errorf("%v: Bytes = %d, want %d", ends, r.Paths[0].Bytes, want)
		}
		p.look()
	}
}

func TestTrip(t *testing.T) {
	for _, first := range []uint32{1, top - 2, top - 1, top} {
		trip := func(now int, ends ...uint16) (int, int) {
			t.Helper()
			p := pairOf(t, first, 2)
			for i, sent := range []int{10, 20, 50, 40} { // path 0: 10, 50; path 1: 20, 40
				p.puts(sent, i%2)
			}
			r := p.takes(sack(first-1, ends...), now)
			p.look()
			return r.Paths[0].Trip, r.Paths[1].Trip
		}
		for _, c := range []struct {
			now    int
			ends   []uint16
			t0, t1 int
		}{
			{100, []uint16{1, 4}, 50, 60}, {100, []uint16{1, 2}, 90, 80}, {100, []uint16{1, 1, 4, 4}, 90, 60},
			{100, []uint16{3, 3}, 50, -1}, {100, []uint16{2, 2}, -1, 80}, {100, nil, -1, -1},
			{50, []uint16{1, 4}, 0, 10}, {49, []uint16{1, 4}, 0, 9}, {30, []uint16{1, 4}, 0, 0}, {0, []uint16{1, 4}, 0, 0},
			{maxTime, []uint16{1, 4}, maxTime - 50, maxTime - 40},
		} {
			if a, b := trip(c.now, c.ends...); a != c.t0 || b != c.t1 {
				t.Errorf("Trips of %v at %d = %d, %d, want %d, %d", c.ends, c.now, a, b, c.t0, c.t1)
			}
		}
	}
}

func TestTripOfChunksSentOnceAlone(t *testing.T) {
	p := pairOf(t, top, 1)
	p.puts(10, 0)
	p.puts(20, 0, 0)
	p.timeout(0)
	p.again(0, 30)
	p.puts(40, 0)
	p.timeout(0)
	p.again(0, 50)
	p.is("4294967295F0x3 0M0 1M0 2M0")
	p.again(0, 60)
	p.is("4294967295F0x3 0F0x2 1M0 2M0")
	if r := p.takes(sack(0), 100); r.Paths[0] != (api.Acked{Bytes: 20, Moved: true, Trip: -1}) {
		t.Errorf("%+v", r)
	}
	if r := p.takes(sack(0, 1, 1), 100); r.Paths[0] != (api.Acked{Bytes: 10, Moved: true, Trip: 80}) { // Marked, but sent once
		t.Errorf("%+v", r)
	}
	p.again(0, 70)
	p.puts(75, 0)
	p.puts(80, 0)
	p.timeout(0)
	p.again(0, 81) // 2
	p.again(0, 82) // 3
	p.again(0, 83) // 4
	p.puts(85, 0)
	p.is("1A0 2F0x3 3F0x2 4F0x2 5F0")
	if r := p.takes(sack(5), 100); r.Paths[0] != (api.Acked{Bytes: 40, Moved: true, Trip: 15}) || r.Free != 50 {
		t.Errorf("%+v", r)
	}
}

// The greatest TSN of those that were sent once, though a greater one was sent again.
func TestTripBelowOneSentAgain(t *testing.T) {
	p := pairOf(t, 1, 2)
	p.puts(10, 1, 1, 0)
	p.timeout(0)
	p.again(1, 90)
	if r := p.takes(sack(3), 100); r.Paths[1] != (api.Acked{Bytes: 30, Moved: true, Trip: 90}) || r.Paths[0] != (api.Acked{Trip: -1}) {
		t.Errorf("%+v", r)
	}
}

// Step 3: reneging

func TestReneging(t *testing.T) {
	p := pairOf(t, 1, 2)
	p.puts(5, 0, 1, 0, 1, 0, 1)
	p.takes(mixed(1, gaps(2, 3), gaps(5, 5)), 9)
	p.is("2F1.1 3A0 4A1 5F0 6X1")
	p.comes(sack(1, 2, 2), 9, api.Report{Paths: none(2).Paths, Reneged: 10})
	p.is("2F1.1 3A0 4M1 5F0 6X1")
	p.comes(sack(1), 9, api.Report{Paths: none(2).Paths, Reneged: 10})
	p.is("2F1.1 3M0 4M1 5F0 6X1")
	p.comes(sack(1), 9, none(2))
	if n, o, ok := p.box.Marked(); n != 20 || o.TSN != 3 || !ok {
		t.Errorf("Marked = %d, %+v", n, o)
	}
	p.again(1, 20)
	p.is("2F1.1 3F1x2 4M1 5F0 6X1")
	p.comes(sack(1, 2, 3), 25, api.Report{Paths: []api.Acked{{Trip: -1}, {Bytes: 20, Trip: 20}}})
	p.is("2F1.2 3A1x2 4A1 5F0 6X1")
	p.comes(sack(6), 30, api.Report{Paths: []api.Acked{{Bytes: 10, Moved: true, Trip: 25}, {Bytes: 10, Moved: true, Trip: 25}}, Free: 40})
	p.is("")
}

func TestRenegingSetsMissing(t *testing.T) {
	p := pairOf(t, 1, 1)
	p.puts(5, 0, 0, 0, 0)
	p.takes(sack(0, 3, 3), 9)
	p.takes(sack(0, 3, 4), 9)
	p.is("1F0.2 2F0.2 3A0 4A0")
	p.takes(sack(1, 1, 3), 9)
	p.is("2A0.2 3A0 4A0") // that it came leaves Missing as it was
	p.comes(sack(1, 2, 3), 9, api.Report{Paths: none(1).Paths, Reneged: 10})
	p.is("2M0 3A0 4A0")
}

// One that is given up, and others that come, in one report: it is Marked, not Flying, and has no Missing by them.
func TestRenegingBesideNewlyTold(t *testing.T) {
	p := pairOf(t, 1, 1)
	p.puts(5, 0, 0, 0)
	p.takes(sack(0, 1, 1), 9)
	p.is("1A0 2F0 3F0")
	p.comes(sack(0, 3, 3), 9, api.Report{Paths: []api.Acked{{Bytes: 10, Trip: 4}}, Reneged: 10})
	p.is("1M0 2F0.1 3A0")
}

func TestRenegedOneKeepsQuick(t *testing.T) {
	p := pairOf(t, 1, 1)
	p.puts(5, 0, 0, 0, 0)
	for i := range uint16(3) {
		p.takes(sack(0, 2, 2+i), 9)
	}
	p.again(0, 10)
	p.takes(sack(0, 1, 4), 12)
	p.is("1A0x2q 2A0 3A0 4A0")
	p.takes(sack(0, 2, 4), 12)
	p.is("1M0x2q 2A0 3A0 4A0")
}

// Step 4: Acked, Freed, Free

func TestFree(t *testing.T) {
	p := pairOf(t, 1, 1)
	for _, n := range []int{1, 20, 300, 4000, 50000} {
		p.put(0, p.part(n), 5)
	}
	free := func(c api.Chunk, want int, kept string) {
		t.Helper()
		if r := p.takes(c, 9); r.Free != want {
			t.Errorf("Report(%+v): Free = %d, want %d", c, r.Free, want)
		}
		p.is(kept)
	}
	free(sack(0, 2, 3), 0, "1F0.1 2A0 3A0 4F0 5F0")
	free(mixed(0, gaps(2, 3), gaps(3, 3)), 300, "1F0.1 2A0 3X0 4F0 5F0") // Acked, told for good later
	free(mixed(0, gaps(2, 3), gaps(3, 3)), 0, "1F0.1 2A0 3X0 4F0 5F0")   // not twice
	free(firm(0, 2, 3, 5, 5), 50020, "1F0.2 2X0 3X0 4F0.1 5X0")
	free(sack(1, 1, 4), 1, "2X0 3X0 4A0.1 5X0")
	free(sack(3), 0, "4M0 5X0")
	free(sack(4), 4000, "5X0")
	free(sack(5), 0, "")
}

func TestFreeOfMarked(t *testing.T) {
	for _, c := range []struct {
		chunk api.Chunk
		free  int
		kept  string
	}{
		{sack(1), 10, "2M0 3M0"}, {sack(3), 30, ""}, {sack(0, 2, 2), 0, "1M0 2A0 3M0"},
		{firm(0, 2, 2), 10, "1M0 2X0 3M0"}, {mixed(1, gaps(1, 1), gaps(2, 2)), 20, "2A0 3X0"},
	} {
		p := pairOf(t, 1, 1)
		p.puts(5, 0, 0, 0)
		p.timeout(0)
		if r := p.takes(c.chunk, 9); r.Free != c.free || r.Paths[0].Lost != 0 {
			t.Errorf("Report(%+v) = %+v", c.chunk, r)
		}
		p.is(c.kept)
	}
}

// A chunk that is Freed is never given up, nor told anew, whatever reports say or leave out.
func TestFreedStays(t *testing.T) {
	p := pairOf(t, 1, 2)
	p.puts(5, 0, 1, 0, 1)
	p.takes(firm(0, 2, 3), 9)
	p.is("1F0.1 2X1 3X0 4F1")
	for _, c := range []api.Chunk{sack(0), sack(0, 2, 2), firm(0, 3, 3), firm(0), mixed(0, gaps(2, 3), nil), firm(0, 2, 3)} {
		p.comes(c, 9, none(2))
		p.is("1F0.1 2X1 3X0 4F1")
	}
	p.timeout(0)
	p.timeout(1)
	p.is("1M0 2X1 3X0 4M1")
	p.comes(sack(3), 9, api.Report{Paths: []api.Acked{{Bytes: 10, Moved: true, Trip: 4}, {Trip: -1}}, Free: 10})
	p.is("4M1")
}

// Step 5: Missing

func TestMissingIsOneMoreAReport(t *testing.T) {
	p := pairOf(t, 1, 1)
	p.puts(5, 0, 0, 0, 0, 0, 0)
	p.takes(sack(0, 2, 4), 9) // three newly told ones, but one report
	p.is("1F0.1 2A0 3A0 4A0 5F0 6F0")
	p.takes(sack(0, 2, 4, 6, 6), 9)
	p.is("1F0.2 2A0 3A0 4A0 5F0.1 6A0")
}

func TestMissingByNewlyToldAlone(t *testing.T) {
	p := pairOf(t, 1, 1)
	p.puts(5, 0, 0, 0)
	p.takes(sack(0, 3, 3), 9)
	for range 5 {
		p.takes(sack(0, 3, 3), 9)
		p.takes(firm(0, 3, 3), 9) // Freed now, but not newly told
		p.is("1F0.1 2F0.1 3X0")
	}
	p.takes(sack(0, 2, 3), 9)
	p.is("1F0.2 2A0.1 3X0")
}

func TestMissingByGreaterTSNsAlone(t *testing.T) {
	for _, first := range []uint32{1, top, top - 1, top - 2} {
		p := pairOf(t, first, 1)
		p.puts(5, 0, 0, 0, 0)
		p.takes(sack(first-1, 2, 2), 9)
		for i, want := range []int{1, 0, 0, 0} {
			if o := p.box.All()[i]; o.Missing != want {
				t.Errorf("%+v, want Missing %d", o, want)
			}
		}
		p.takes(sack(first), 9) // 2 is given up, 1 came: nothing is passed over
		for _, o := range p.box.All() {
			if o.Missing != 0 {
				t.Errorf("%+v", o)
			}
		}
		p.look()
	}
}

func TestMissingByTheSamePathAlone(t *testing.T) {
	p := pairOf(t, 1, 3)
	p.puts(5, 0, 1, 2, 0, 1, 2)
	p.takes(sack(0, 5, 5), 9)
	p.is("1F0 2F1.1 3F2 4F0 5A1 6F2")
	p.takes(sack(0, 4, 5), 9)
	p.is("1F0.1 2F1.1 3F2 4A0 5A1 6F2")
}

// Its path is that of its last sending.
func TestMissingByPathOfLastSending(t *testing.T) {
	p := pairOf(t, 1, 2)
	p.puts(5, 0)
	p.timeout(0)
	p.again(1, 6)
	p.puts(7, 0, 1)
	p.takes(sack(0, 2, 2), 9)
	p.is("1F1x2 2A0 3F1")
	p.takes(sack(0, 2, 3), 9)
	p.is("1F1.1x2 2A0 3A1")

	q := pairOf(t, 1, 2)
	q.puts(5, 1, 0)
	q.timeout(0)
	q.again(1, 6) // the newly told one was sent again on the path of the first
	q.takes(sack(0, 2, 2), 9)
	q.is("1F1.1 2A1x2")
}

// One that was sent ahead of the chunk's last sending says nothing of it.
func TestMissingBySentBehind(t *testing.T) {
	for _, c := range []struct {
		sent int // when the second chunk was, the first one being sent again at 20
		want string
	}{{0, "1F0x2 2A0"}, {19, "1F0x2 2A0"}, {20, "1F0.1x2 2A0"}, {21, "1F0.1x2 2A0"}, {maxTime, "1F0.1x2 2A0"}} {
		p := pairOf(t, 1, 1)
		p.puts(5, 0)
		p.timeout(0)
		p.again(0, 20)
		p.puts(c.sent, 0)
		p.takes(sack(0, 2, 2), 9)
		p.is(c.want)
	}
	p := pairOf(t, 1, 1)
	for _, sent := range []int{10, 30, 20, 25} {
		p.puts(sent, 0)
	}
	p.takes(sack(0, 3, 4), 40) // of both the later one counts, not the one with the greater TSN
	p.is("1F0.1 2F0 3A0 4A0")
	q := pairOf(t, 1, 1)
	for _, sent := range []int{10, 24, 25, 20} {
		q.puts(sent, 0)
	}
	q.takes(sack(0, 3, 4), 40)
	q.is("1F0.1 2F0.1 3A0 4A0")
}

// At time 0 all of it holds as ever.
func TestMissingAtTimeZero(t *testing.T) {
	p := pairOf(t, 1, 2)
	p.puts(0, 0, 0, 1, 1)
	p.comes(sack(0, 2, 2), 0, api.Report{Paths: []api.Acked{{Bytes: 10, Trip: 0}, {Trip: -1}}})
	p.is("1F0.1 2A0 3F1 4F1")
}

func TestMissingOfFlyingAlone(t *testing.T) {
	p := pairOf(t, 1, 2)
	p.puts(5, 0, 0, 0, 0)
	p.takes(mixed(0, gaps(2, 2), gaps(3, 3)), 9)
	p.is("1F0.1 2A0 3X0 4F0")
	p.timeout(0)
	p.is("1M0 2A0 3X0 4M0")
	p.puts(6, 0)
	p.takes(mixed(0, gaps(2, 2, 5, 5), gaps(3, 3)), 9)
	p.is("1M0 2A0 3X0 4M0 5A0")
}

// Newly told ones that the report's own TSN tells of count too, but none is below them that is not told.
func TestMissingByNewlyToldOnesForGood(t *testing.T) {
	p := pairOf(t, 1, 1)
	p.puts(5, 0, 0, 0)
	p.takes(firm(0, 3, 3), 9)
	p.is("1F0.1 2F0.1 3X0")
	p.takes(sack(2), 9)
	p.is("3X0")
}

func TestThirdMissing(t *testing.T) {
	p := pairOf(t, 1, 2)
	for i, n := range []int{1, 20, 300, 4000, 10, 10, 10} {
		p.put([]int{0, 0, 1, 1, 0, 0, 0}[i], p.part(n), 5)
	}
	lost := func(c api.Chunk, l0, l1 int, kept string) {
		t.Helper()
		if r := p.takes(c, 9); r.Paths[0].Lost != l0 || r.Paths[1].Lost != l1 {
			t.Errorf("Report(%+v) = %+v", c, r)
		}
		p.is(kept)
	}
	lost(sack(0, 5, 5), 0, 0, "1F0.1 2F0.1 3F1 4F1 5A0 6F0 7F0")
	lost(sack(0, 5, 6), 0, 0, "1F0.2 2F0.2 3F1 4F1 5A0 6A0 7F0")
	lost(sack(0, 5, 7), 21, 0, "1M0q 2M0q 3F1 4F1 5A0 6A0 7A0")
	if n, o, ok := p.box.Marked(); n != 21 || o.TSN != 1 || !ok || p.box.Flying(0) != 0 || p.box.Flying(1) != 4300 {
		t.Errorf("Marked = %d, %+v, %v", n, o, ok)
	}
	lost(sack(0, 5, 7), 0, 0, "1M0q 2M0q 3F1 4F1 5A0 6A0 7A0")
}

func TestQuickIsNotMarkedSoAgain(t *testing.T) {
	p := pairOf(t, 1, 1)
	p.puts(5, 0, 0, 0, 0)
	for i := range uint16(3) {
		p.takes(sack(0, 2, 2+i), 9)
	}
	p.is("1M0q 2A0 3A0 4A0")
	p.again(0, 10)
	for i := range uint16(5) {
		p.puts(11, 0)
		if r := p.takes(sack(0, 2, 5+i), 12); r.Paths[0].Lost != 0 {
			t.Errorf("%+v", r)
		}
		if o := p.box.All()[0]; o.Missing != int(i)+1 || o.State != flying || !o.Quick {
			t.Errorf("%+v", o)
		}
		p.look()
	}
	if n, _ := p.timeout(0); n != 10 {
		t.Errorf("Timeout = %d", n)
	}
	p.is("1M0x2q 2A0 3A0 4A0 5A0 6A0 7A0 8A0 9A0")
	p.again(0, 20)
	p.is("1F0x3q 2A0 3A0 4A0 5A0 6A0 7A0 8A0 9A0")
}

// A chunk that was marked by its timer, not by reports, is not Quick: reports may mark it yet.
func TestQuickBehindTimeout(t *testing.T) {
	p := pairOf(t, 1, 1)
	p.puts(5, 0, 0, 0)
	p.takes(sack(0, 2, 2), 9)
	p.takes(sack(0, 2, 3), 9)
	p.is("1F0.2 2A0 3A0")
	p.timeout(0)
	p.is("1M0 2A0 3A0")
	p.again(0, 6)
	for i := range uint16(3) {
		p.puts(7, 0)
		r := p.takes(sack(0, 2, 4+i), 9)
		if (r.Paths[0].Lost == 10) != (i == 2) {
			t.Errorf("%d: %+v", i, r)
		}
	}
	p.is("1M0x2q 2A0 3A0 4A0 5A0 6A0")
}

// Step 6: Cum

func TestCumMoves(t *testing.T) {
	for up := range uint32(9) {
		p := several(t)
		p.takes(sack(12+up), 9)
		if p.box.Cum() != 12+up || p.box.Len() != int(8-up) || p.box.Next() != 21 {
			t.Errorf("Cum, Len, Next = %d, %d, %d", p.box.Cum(), p.box.Len(), p.box.Next())
		}
		for i, o := range p.box.All() {
			if o.TSN != 13+up+uint32(i) {
				t.Errorf("%+v", o)
			}
		}
		p.look()
		p.refused(sack(12+up-1), 9, 170)
		p.puts(9, 2)
		p.look()
	}
}

// Freed chunks stay kept till a report's TSN reaches them, and blocks never move it.
func TestCumMovesByTSNAlone(t *testing.T) {
	p := pairOf(t, 1, 1)
	p.puts(5, 0, 0, 0)
	p.takes(firm(0, 1, 3), 9)
	p.is("1X0 2X0 3X0")
	if p.box.Cum() != 0 || p.box.Len() != 3 {
		t.Errorf("Cum, Len = %d, %d", p.box.Cum(), p.box.Len())
	}
	p.comes(sack(2), 9, none(1))
	p.is("3X0")
}

// All at once: each step leans on those ahead of it.
func TestAllStepsInOneReport(t *testing.T) {
	p := pairOf(t, 1, 3)
	p.puts(10, 0, 0, 1, 0, 0, 1, 0, 0)
	p.takes(sack(0, 4, 4), 15)
	p.takes(sack(0, 4, 5), 15)
	p.is("1F0.2 2F0.2 3F1 4A0 5A0 6F1 7F0 8F0")
	p.comes(mixed(1, gaps(3, 3), gaps(6, 6)), 30, api.Report{
		Paths:   []api.Acked{{Bytes: 20, Moved: true, Trip: 20, Lost: 10}, {Trip: -1}, {Trip: -1}},
		Free:    20,
		Reneged: 10,
	})
	p.is("2M0q 3F1 4A0 5M0 6F1 7X0 8F0")
	p.comes(mixed(3, gaps(1, 1), gaps(3, 5)), 31, api.Report{
		Paths: []api.Acked{{Bytes: 20, Moved: true, Trip: 21}, {Bytes: 20, Moved: true, Trip: 21}, {Trip: -1}},
		Free:  40,
	})
	p.is("4A0 5M0 6X1 7X0 8X0")
}

func TestPathsInOrder(t *testing.T) {
	for paths := 1; paths <= 8; paths++ {
		p := pairOf(t, 1, paths)
		for path := range paths {
			p.put(path, p.part(path+1), 5+path)
		}
		r := p.takes(sack(uint32(paths)), 20)
		if len(r.Paths) != paths {
			t.Fatalf("%d paths of %d", len(r.Paths), paths)
		}
		for path, a := range r.Paths {
			if a != (api.Acked{Bytes: path + 1, Moved: true, Trip: 15 - path}) {
				t.Errorf("path %d: %+v", path, a)
			}
		}
		p.look()
	}
}

// P17.6

func TestOnceOverRows(t *testing.T) {
	for seed := range int64(60) {
		r := rand.New(rand.NewSource(1000 + seed))
		b := made(t, -uint32(r.Intn(30)), 3)
		free, put := 0, 0
		for range 120 {
			n := 1 + r.Intn(50)
			if _, e := b.Put(r.Intn(3), api.Part{Message: api.Message{Data: make([]byte, n)}}, r.Intn(9)); e == 0 {
				put += n
			}
			up := r.Intn(min(b.Len(), 2) + 1)
			c := api.Chunk{Kind: []api.ChunkKind{3, 16}[r.Intn(2)], TSN: b.Cum() + uint32(up)}
			if left := b.Len() - up; left > 0 {
				start := 1 + r.Intn(left)
				c.Gaps = gaps(uint16(start), uint16(start+r.Intn(left-start+1)))
				start = 1 + r.Intn(left)
				c.NR = gaps(uint16(start), uint16(start+r.Intn(left-start+1)))
			}
			for range 1 + r.Intn(2) {
				got, e := b.Report(c, 9)
				if e != 0 {
					t.Fatalf("Report(%+v) = %d", c, e)
				}
				free += got.Free
			}
			b.Again(r.Intn(3), r.Intn(20))
			held := 0
			for _, o := range b.All() {
				if o.State != freed {
					held += len(o.Part.Data)
				}
			}
			if free+held != put {
				t.Fatalf("%d bytes were put, %d freed, %d are held", put, free, held)
			}
		}
	}
}

// P17.7

func TestSplit(t *testing.T) {
	p := pairOf(t, 1, 3)
	p.puts(5, 0, 2)
	for range 20 {
		p.puts(6, 1)
	}
	for i := range uint16(20) {
		r := p.takes(sack(0, 3, 3+i), 9)
		if r.Paths[0] != (api.Acked{Trip: -1}) || r.Paths[2] != (api.Acked{Trip: -1}) {
			t.Errorf("%+v", r)
		}
		for path, want := range map[int]uint32{0: 1, 2: 2} {
			if o, ok := p.box.First(path); !ok || o.TSN != want || o.Missing != 0 || o.State != flying {
				t.Errorf("First(%d) = %+v, %v", path, o, ok)
			}
		}
	}
	if n, _, ok := p.box.Marked(); n != 0 || ok {
		t.Errorf("Marked = %d", n)
	}
}

// P17.8

func TestSameReportAgain(t *testing.T) {
	for _, c := range []api.Chunk{
		sack(12), sack(12, 1, 1), sack(12, 2, 8), firm(12, 5, 6), mixed(12, gaps(1, 4), gaps(2, 8)), // cum stays
		sack(13), sack(14, 2, 3), firm(15, 1, 1, 3, 3), mixed(16, gaps(2, 4), gaps(3, 3)), sack(20), // cum moves
	} {
		p := several(t)
		p.takes(c, 9)
		ahead := p.box.All()
		for now := range 4 {
			p.comes(c, now*100, none(3))
			if behind := p.box.All(); !slices.EqualFunc(ahead, behind, sameOut) {
				t.Errorf("Report(%+v) again: %+v was %+v", c, behind, ahead)
			}
		}
	}
}

package inbox

import (
	"math"
	"math/rand"
	"reflect"
	"slices"
	"testing"

	"ropewalk/api"
	"ropewalk/spans"
)

func wrongTimes() []int {
	return []int{math.MinInt, math.MinInt + 1, -maxTime, -2, -1, maxTime + 1, maxTime + 2, math.MaxInt - 1, math.MaxInt}
}

func wrongMosts() []int {
	return []int{math.MinInt, math.MinInt + 1, math.MinInt32, -2, -1, maxGaps + 1, maxGaps + 2, 1 << 32, math.MaxInt - 1, math.MaxInt}
}

func gap(start, end uint16) api.Gap { return api.Gap{Start: start, End: end} }

// several is a pair with TSNs of all kinds, duplicates, and a packet that was heard of.
func several(t *testing.T, first uint32, nr bool) *pair {
	t.Helper()
	p := pairOf(t, first, 200, nr)
	p.new(p.at(1)...)
	p.new(p.at(3, 4, 5, 6, 8, 9, 20, 65535)...)
	p.fixes(4, p.at(4, 6, 8, 65535)...)
	p.twice(p.at(0, 4, 3, 0, -7)...)
	p.hears(0, 70)
	return p
}

func TestNumbersOfErrorsAndLimits(t *testing.T) {
	if api.OK != 0 || api.ErrArg != 1 || api.ErrNil != 4 || api.ErrFar != 31 || api.ErrInbox != 190 {
		t.Error("another number of an error")
	}
	if api.MaxDelay != maxDelay || api.MaxTime != maxTime || api.MaxGaps != maxGaps || api.MaxAhead != maxAhead {
		t.Error("another limit")
	}
	if api.KSack != 3 || api.KNrSack != 16 {
		t.Error("another number of a kind")
	}
}

func TestExample1(t *testing.T) {
	b := made(t, 1, 200, true)
	for _, tsn := range []uint32{1, 3, 4} {
		if ok, e := b.Come(tsn); !ok || e != 0 {
			t.Errorf("Come(%d) = %v, %d", tsn, ok, e)
		}
	}
	if n := b.Fix(4); n != 1 {
		t.Errorf("Fix(4) = %d", n)
	}
	want := api.Chunk{Kind: api.KNrSack, TSN: 1, Window: 9000, Gaps: []api.Gap{gap(2, 2)}, NR: []api.Gap{gap(3, 3)}}
	if c, e := b.Report(9000, 8); e != 0 || !sameChunk(c, want) {
		t.Errorf("Report = %+v, %d", c, e)
	}
}

func TestExample2(t *testing.T) {
	p := pairOf(t, 1, 200, true)
	p.hears(0, 10)
	p.dueAt(10)
	p.report(9000, 8)
	p.notDue()
	p.hears(0, 20)
	p.dueAt(220)
	p.hears(0, 25)
	p.dueAt(25)
}

// A box that nobody made

func TestUnmadeBox(t *testing.T) {
	var nobody *Box
	for _, b := range []*Box{nobody, {}, new(Box)} {
		for range 2 { // the calls change nothing: it is as it was
			for _, tsn := range []uint32{0, 1, 2, half, top} {
				unmadeTSN(t, b, tsn)
			}
			for _, n := range append(wrongTimes(), 0, 1, 8, maxGaps, maxTime) {
				if e := b.Heard(n); e != 4 {
					t.Errorf("Heard(%d) = %d", n, e)
				}
				for _, window := range []uint32{0, 9, top} {
					if c, e := b.Report(window, n); e != 4 || !sameChunk(c, api.Chunk{}) {
						t.Errorf("Report(%d, %d) = %+v, %d", window, n, c, e)
					}
				}
			}
			if now, ok := b.Due(); now != 0 || ok {
				t.Errorf("Due = %d, %v", now, ok)
			}
			if b.Cum() != 0 || len(b.Above())+len(b.Fixed())+len(b.Dups()) != 0 || b.Fix() != 0 || b.Fix(nil...) != 0 {
				t.Error("a box that nobody made tells something")
			}
		}
		if b != nil && !reflect.DeepEqual(b, &Box{}) {
			t.Error("a box that nobody made has changed")
		}
	}
}

func unmadeTSN(t *testing.T, b *Box, tsn uint32) {
	t.Helper()
	if ok, e := b.Come(tsn); ok || e != 4 {
		t.Errorf("Come(%d) = %v, %d", tsn, ok, e)
	}
	if b.Has(tsn) || b.Drop(tsn) || b.Fix(tsn) != 0 || b.Fix(tsn, tsn+1, 0) != 0 {
		t.Errorf("a box that nobody made knows %d", tsn)
	}
}

// P19.1

func TestNew(t *testing.T) {
	for _, first := range []uint32{0, 1, 2, half - 1, half, half + 1, top - 1, top} {
		for _, delay := range []int{math.MinInt, math.MinInt32, -500, -2, -1, 0, 1, 2, 200, 499, 500, 501, 502, 1 << 32, 1<<32 + 200, math.MaxInt} {
			for _, nr := range []bool{false, true} {
				b, e := New(first, delay, nr)
				if delay < 0 || delay > 500 {
					if b != nil || e != 190 {
						t.Errorf("New(%d, %d, %v) = %v, %d, want none, 190", first, delay, nr, b, e)
					}
					continue
				}
				if b == nil || e != 0 {
					t.Fatalf("New(%d, %d, %v) = %v, %d", first, delay, nr, b, e)
				}
				if b.Cum() != first-1 || !b.Has(first-1) || b.Has(first) {
					t.Errorf("New(%d, %d, %v): Cum = %d", first, delay, nr, b.Cum())
				}
				p := &pair{t: t, box: b, model: modelOf(first, delay, nr)}
				p.look()
				p.notDue()
				p.report(7, 8)
			}
		}
	}
	if made(t, 0, 0, false).Cum() != top {
		t.Error("first less 1 is not cut to 32 bits")
	}
}

// P19.2

func TestComeInOrder(t *testing.T) {
	for _, p := range pairs(t) {
		for range 10 {
			before := p.box.Cum()
			p.new(p.at(1)...)
			if p.box.Cum() != before+1 {
				t.Fatalf("Cum = %d behind %d", p.box.Cum(), before)
			}
		}
		if len(p.box.Above()) != 0 || len(p.box.Dups()) != 0 {
			t.Errorf("Above %v, Dups %v", p.box.Above(), p.box.Dups())
		}
	}
}

func TestComeInAnyOrder(t *testing.T) {
	for _, p := range pairs(t) {
		first := p.model.cum
		p.new(p.at(3, 7, 2, 5, 65535, 4)...)
		p.twice(p.at(0, -1, math.MinInt32, 2, 65535, 5)...)
		if p.box.Cum() != first || len(p.box.Above()) != 6 {
			t.Fatalf("Cum %d, Above %v", p.box.Cum(), p.box.Above())
		}
		p.new(p.at(1)...) // cum moves over what came ahead
		if p.box.Cum() != first+5 || !slices.Equal(p.box.Above(), []uint32{first + 7, first + 65535}) {
			t.Fatalf("Cum %d, Above %v", p.box.Cum(), p.box.Above())
		}
		p.new(p.at(1)...)
		if p.box.Cum() != first+7 {
			t.Fatalf("Cum = %d", p.box.Cum())
		}
		p.twice(p.at(0, -6)...)
	}
}

func TestComeFar(t *testing.T) {
	for _, p := range pairs(t) {
		p.far(p.at(65536, 65537, 65538, 131072, math.MaxInt32-1, math.MaxInt32)...)
		p.new(p.at(65535)...)
		p.far(p.at(65536, 65536+65535, math.MaxInt32)...)
		p.twice(p.at(65535, math.MinInt32, math.MinInt32+1)...)
		p.new(p.at(1)...) // cum is one more, and so is the furthest one
		p.new(p.at(65535)...)
		p.far(p.at(65536)...)
	}
}

func TestComeFarChangesNothing(t *testing.T) {
	for _, nr := range []bool{false, true} {
		p := several(t, top-3, nr)
		dups := p.box.Dups()
		p.far(p.at(65536, 65537, 100000, math.MaxInt32)...)
		if !slices.Equal(p.box.Dups(), dups) {
			t.Errorf("Dups = %v", p.box.Dups())
		}
		p.dueAt(70)
		p.report(1, maxGaps)
		p.far(p.at(65536)...)
		p.hears(0, 90)
		p.dueAt(290) // no duplicate: the report may wait
	}
}

func TestDuplicates(t *testing.T) {
	for _, p := range pairs(t) {
		p.new(p.at(3, 4, 65535)...)
		p.fixes(1, p.at(3)...)
		one := p.at(1, 0, -1, 65535, 3)
		for _, tsn := range []uint32{one[1], one[2], one[2], one[3], one[1], one[4], one[3]} {
			p.twice(tsn)
		}
		want := []uint32{one[1], one[2], one[2], one[3], one[1], one[4], one[3]}
		if !slices.Equal(p.box.Dups(), want) {
			t.Errorf("Dups = %v, want %v", p.box.Dups(), want)
		}
		p.new(one[0]) // what cum reaches stays among the duplicates
		if !slices.Equal(p.box.Dups(), want) {
			t.Errorf("Dups = %v, want %v", p.box.Dups(), want)
		}
	}
}

func TestMostDuplicates(t *testing.T) {
	for _, nr := range []bool{false, true} {
		b := made(t, 5, 200, nr)
		var want []uint32
		for i := range uint32(maxGaps) {
			tsn := 4 - i%3
			want = append(want, tsn)
			if ok, e := b.Come(tsn); ok || e != 0 {
				t.Fatalf("Come(%d) = %v, %d", tsn, ok, e)
			}
			if i%512 == 511 && !slices.Equal(b.Dups(), want) {
				t.Fatalf("%d duplicates: Dups = %v", i+1, b.Dups())
			}
		}
		for _, tsn := range []uint32{3, 0, top, 3} { // one more, and further ones
			if ok, e := b.Come(tsn); ok || e != 0 || !slices.Equal(b.Dups(), want) {
				t.Fatalf("Come(%d) = %v, %d, %d duplicates", tsn, ok, e, len(b.Dups()))
			}
		}
		if ok, e := b.Come(9); !ok || e != 0 { // what is new is taken
			t.Errorf("Come(9) = %v, %d", ok, e)
		}
		if _, e := b.Come(5 + 65536); e != 31 {
			t.Errorf("Come = %d", e)
		}
		if c, e := b.Report(1, maxGaps); e != 0 || !slices.Equal(c.Dups, want) {
			t.Errorf("Report: %d duplicates, %d", len(c.Dups), e)
		}
		if ok, _ := b.Come(1); ok || !slices.Equal(b.Dups(), []uint32{1}) {
			t.Errorf("behind the report: Dups = %v", b.Dups())
		}
	}
}

// P19.3

func TestDrop(t *testing.T) {
	for _, p := range pairs(t) {
		p.new(p.at(2, 3, 4, 9, 65535)...)
		p.drops(false, p.at(0, -1, -65536, math.MinInt32, 1, 5, 8, 10, 65534, 65536, 2+65536, 3+131072, math.MaxInt32)...)
		p.drops(true, p.at(3)...)
		p.drops(false, p.at(3)...) // dropped already
		if p.box.Has(p.at(3)[0]) || len(p.box.Dups()) != 0 {
			t.Errorf("behind Drop: Above %v, Dups %v", p.box.Above(), p.box.Dups())
		}
		p.new(p.at(3)...) // it may come again, and is no duplicate
		if len(p.box.Dups()) != 0 {
			t.Errorf("Dups = %v", p.box.Dups())
		}
		p.twice(p.at(3)...)
		p.fixes(1, p.at(9)...)
		p.drops(false, p.at(9)...)
		p.drops(true, p.at(65535, 2, 4, 3)...)
		p.drops(false, p.at(65535, 2, 4, 3, 9)...)
		if !slices.Equal(p.box.Above(), p.at(9)) {
			t.Errorf("Above = %v", p.box.Above())
		}
	}
}

func TestDropOpensAGap(t *testing.T) {
	for _, p := range pairs(t) {
		p.new(p.at(2, 3, 4)...)
		p.drops(true, p.at(3)...)
		p.new(p.at(1)...) // cum stops ahead of it
		if !slices.Equal(p.box.Above(), p.at(2)) {
			t.Errorf("Cum %d, Above %v", p.box.Cum(), p.box.Above())
		}
		p.drops(false, p.at(0, -1)...)
		p.new(p.at(1)...)
		if len(p.box.Above()) != 0 {
			t.Errorf("Above = %v", p.box.Above())
		}
	}
}

func TestFix(t *testing.T) {
	for _, p := range pairs(t) {
		p.fixes(0)
		p.fixes(0, p.at(0, 1, 2, -1, math.MinInt32, math.MaxInt32)...)
		p.new(p.at(2, 3, 4, 5, 9, 65535)...)
		p.fixes(0, p.at(0, -1, -65536, math.MinInt32, 1, 6, 8, 10, 65534, 65536, 2+65536, math.MaxInt32)...)
		p.fixes(1, p.at(3)...)
		p.fixes(0, p.at(3)...)
		p.fixes(1, p.at(2, 2)...)                           // the same one twice
		p.fixes(2, p.at(9, 2, 9, 3, 0, 7, 65535, 65536)...) // only those that are so anew
		p.fixes(2, p.at(5, 4, 4, 5)...)
		if !slices.Equal(p.box.Fixed(), p.at(2, 3, 4, 5, 9, 65535)) {
			t.Errorf("Fixed = %v", p.box.Fixed())
		}
	}
}

func TestFixNone(t *testing.T) {
	p := several(t, 1, true)
	if p.box.Fix() != 0 || p.box.Fix(nil...) != 0 || p.box.Fix([]uint32{}...) != 0 {
		t.Error("Fix of none fixes some")
	}
	p.look()
}

func TestFixMany(t *testing.T) {
	for _, first := range []uint32{1, top - 30000} {
		b := made(t, first, 0, true)
		var all []uint32
		for d := uint32(1); d < 65535; d++ {
			all = append(all, first+d)
		}
		for _, tsn := range all {
			if ok, e := b.Come(tsn); !ok || e != 0 {
				t.Fatalf("Come(%d) = %v, %d", tsn, ok, e)
			}
		}
		if n := b.Fix(append(slices.Clone(all), all...)...); n != len(all) || !slices.Equal(b.Fixed(), all) || !slices.Equal(b.Above(), all) {
			t.Errorf("Fix = %d of %d", n, len(all))
		}
		if b.Drop(first+1) || b.Drop(first+65534) {
			t.Error("a fixed one was dropped")
		}
		if ok, e := b.Come(first); !ok || e != 0 || b.Cum() != first+65534 || len(b.Fixed())+len(b.Above()) != 0 {
			t.Errorf("Come = %v, %d, Cum %d, %d fixed", ok, e, b.Cum(), len(b.Fixed()))
		}
	}
}

func TestCumReachesFixed(t *testing.T) {
	for _, p := range pairs(t) {
		p.new(p.at(2, 3, 5, 6, 8)...)
		p.fixes(3, p.at(3, 6, 8)...)
		p.new(p.at(1)...)
		if !slices.Equal(p.box.Fixed(), p.at(3, 5)) {
			t.Errorf("Fixed = %v", p.box.Fixed())
		}
		p.drops(false, p.at(0, 3, 5)...)
		p.fixes(0, p.at(0, -1, 3, 5)...)
		p.drops(true, p.at(2)...)
		p.new(p.at(1)...)
		if !slices.Equal(p.box.Fixed(), p.at(2, 4)) {
			t.Errorf("Fixed = %v", p.box.Fixed())
		}
		p.new(p.at(1)...)
		p.new(p.at(1)...)
		if len(p.box.Fixed())+len(p.box.Above()) != 0 {
			t.Errorf("Fixed %v, Above %v", p.box.Fixed(), p.box.Above())
		}
		p.fixes(0, p.at(0, -1, -2)...)
		p.new(p.at(65535)...) // as far ahead as can be, where nothing is fixed
		p.new(p.at(65528, 65530)...)
		if len(p.box.Fixed()) != 0 {
			t.Errorf("Fixed = %v", p.box.Fixed())
		}
	}
}

// P19.4

func TestHeardOfTimes(t *testing.T) {
	for _, now := range []int{0, 1, 70, maxTime - 1, maxTime} {
		for _, delay := range []int{0, 1, 200, 500} {
			p := pairOf(t, 1, delay, true)
			p.hears(1, wrongTimes()...)
			p.notDue()
			p.hears(0, now)
			p.dueAt(now) // no report was ever made
			p.hears(1, wrongTimes()...)
			p.dueAt(now)
			p.report(1, 1)
			p.hears(1, wrongTimes()...)
			p.notDue()
			p.hears(0, now)
			p.dueAt(now + delay) // also above MaxTime
			p.hears(1, wrongTimes()...)
			p.dueAt(now + delay)
			p.hears(0, now)
			p.dueAt(now)
		}
	}
}

func TestHeardWithDuplicates(t *testing.T) {
	p := pairOf(t, 5, 200, false)
	p.report(1, 1)
	p.twice(4)
	p.notDue() // a duplicate alone makes none due
	p.hears(0, 30)
	p.dueAt(30)
	p.report(1, 0) // the duplicates are no more, though it told none
	p.hears(0, 40)
	p.dueAt(240)
	p.twice(3)
	p.dueAt(240) // what was said stands
	p.report(1, 1)
	p.new(5)
	p.hears(0, 50)
	p.dueAt(250)
}

func TestHeardEarlier(t *testing.T) {
	p := pairOf(t, 1, 300, true)
	p.hears(0, 500, 400, 450, 0)
	p.dueAt(0)
	p.report(1, 1)
	p.hears(0, 300)
	p.dueAt(600)
	p.hears(0, 20)
	p.dueAt(20)
	p.hears(0, 900)
	p.dueAt(900)
	p.report(1, 1)
	p.hears(0, 100)
	p.dueAt(400)
}

func TestReportWithoutPackets(t *testing.T) {
	p := pairOf(t, 1, 300, true)
	p.new(1)
	p.notDue() // Come alone makes none due
	p.report(1, 1)
	p.notDue()
	p.hears(0, 5) // it is not the first any more
	p.dueAt(305)
}

// P19.5

func TestReportRefused(t *testing.T) {
	for _, nr := range []bool{false, true} {
		p := several(t, top-3, nr)
		for _, most := range wrongMosts() {
			for _, window := range []uint32{0, 1, top} {
				c, e := p.box.Report(window, most)
				if e != 1 || !sameChunk(c, api.Chunk{}) {
					t.Errorf("Report(%d, %d) = %+v, %d", window, most, c, e)
				}
			}
			p.look()
			p.dueAt(70)
		}
		p.hears(0, 80) // no report was made yet
		p.dueAt(80)
		fresh := pairOf(t, 1, 200, nr)
		for _, most := range wrongMosts() {
			fresh.report(1, most)
		}
		fresh.hears(0, 80)
		fresh.dueAt(80)
	}
}

// wanted is the report of several, with room for all.
func wanted(first uint32, window uint32, nr bool) api.Chunk {
	c := api.Chunk{Kind: 3, TSN: first, Window: window, Dups: []uint32{first, first + 4, first + 3, first, first - 7}}
	c.Gaps = []api.Gap{gap(3, 6), gap(8, 9), gap(20, 20), gap(65535, 65535)}
	if nr {
		c.Kind = 16
		c.Gaps = []api.Gap{gap(3, 3), gap(5, 5), gap(9, 9), gap(20, 20)}
		c.NR = []api.Gap{gap(4, 4), gap(6, 6), gap(8, 8), gap(65535, 65535)}
	}
	return c
}

func TestReportFields(t *testing.T) {
	for _, first := range []uint32{0, 1, 1000, half, top - 3, top - 1, top} {
		for _, window := range []uint32{0, 1, 9000, top} {
			for _, nr := range []bool{false, true} {
				for _, most := range []int{0, 1, 2, 3, 4, 5, 6, maxGaps - 1, maxGaps} {
					p := several(t, first, nr)
					want := wanted(first, window, nr)
					want.Gaps, want.NR, want.Dups = firsts(want.Gaps, most), firsts(want.NR, most), firsts(want.Dups, most)
					if c := p.report(window, most); !sameChunk(c, want) {
						t.Errorf("Report(%d, %d) = %+v, want %+v", window, most, c, want)
					}
				}
			}
		}
	}
}

func TestReportEmpty(t *testing.T) {
	for _, first := range []uint32{0, 1, half, top} {
		for nr, kind := range map[bool]api.ChunkKind{false: 3, true: 16} {
			p := pairOf(t, first, 200, nr)
			for _, most := range []int{0, 1, maxGaps} {
				if c := p.report(5, most); !sameChunk(c, api.Chunk{Kind: kind, TSN: first - 1, Window: 5}) {
					t.Errorf("Report = %+v", c)
				}
			}
		}
	}
}

func TestReportAllFixedOrNone(t *testing.T) {
	p := pairOf(t, top-1, 200, true)
	p.new(p.at(2, 3, 7)...)
	if c := p.report(5, 9); len(c.NR) != 0 || !slices.Equal(c.Gaps, []api.Gap{gap(2, 3), gap(7, 7)}) {
		t.Errorf("Report = %+v", c)
	}
	p.fixes(3, p.at(3, 2, 7)...)
	if c := p.report(5, 9); len(c.Gaps) != 0 || !slices.Equal(c.NR, []api.Gap{gap(2, 3), gap(7, 7)}) {
		t.Errorf("Report = %+v", c)
	}
}

func TestReportPartsBlocks(t *testing.T) {
	p := pairOf(t, top-5, 200, true)
	for d := range int64(12) {
		p.new(p.at(2 + d)...)
	}
	p.fixes(3, p.at(5, 6, 7)...)
	if c := p.report(5, 9); !slices.Equal(c.Gaps, []api.Gap{gap(2, 4), gap(8, 13)}) || !slices.Equal(c.NR, []api.Gap{gap(5, 7)}) {
		t.Errorf("fixed in the middle: %+v", c)
	}
	p.fixes(2, p.at(2, 13)...)
	if c := p.report(5, 9); !slices.Equal(c.Gaps, []api.Gap{gap(3, 4), gap(8, 12)}) || !slices.Equal(c.NR, []api.Gap{gap(2, 2), gap(5, 7), gap(13, 13)}) {
		t.Errorf("fixed at both ends: %+v", c)
	}
	p.drops(true, p.at(9)...)
	if c := p.report(5, 9); !slices.Equal(c.Gaps, []api.Gap{gap(3, 4), gap(8, 8), gap(10, 12)}) {
		t.Errorf("behind Drop: %+v", c)
	}
}

func TestReportOfFixedWithoutNR(t *testing.T) {
	p := pairOf(t, 1, 200, false)
	p.new(p.at(2, 3, 4, 6)...)
	p.fixes(2, p.at(3, 6)...)
	want := api.Chunk{Kind: api.KSack, Window: 5, Gaps: []api.Gap{gap(2, 4), gap(6, 6)}}
	if c := p.report(5, 9); !sameChunk(c, want) {
		t.Errorf("Report = %+v", c)
	}
	p.drops(false, p.at(3, 6)...) // they are fixed all the same
}

func TestReportOfManyBlocks(t *testing.T) {
	for _, first := range []uint32{1, top - 20000} {
		plain, nr := made(t, first, 0, false), made(t, first, 0, true)
		var gaps []api.Gap
		for d := uint32(2); d <= 65535; d += 2 {
			gaps = append(gaps, gap(uint16(d), uint16(d)))
			for _, b := range []*Box{plain, nr} {
				if ok, e := b.Come(first - 1 + d); !ok || e != 0 {
					t.Fatalf("Come = %v, %d", ok, e)
				}
			}
			if d%4 == 0 && nr.Fix(first-1+d) != 1 {
				t.Fatal("Fix")
			}
		}
		for _, most := range []int{0, 1, 100, maxGaps - 1, maxGaps} {
			if c, e := plain.Report(1, most); e != 0 || !slices.Equal(c.Gaps, gaps[:most]) || len(c.NR) != 0 {
				t.Errorf("Report(%d): %d blocks, %d", most, len(c.Gaps), e)
			}
			c, e := nr.Report(1, most)
			if e != 0 || len(c.Gaps) != most || len(c.NR) != most {
				t.Fatalf("Report(%d): %d and %d blocks, %d", most, len(c.Gaps), len(c.NR), e)
			}
			for i := range most {
				if c.Gaps[i] != gaps[2*i] || c.NR[i] != gaps[2*i+1] {
					t.Fatalf("Report(%d): blocks %d are %v and %v", most, i, c.Gaps[i], c.NR[i])
				}
			}
		}
	}
}

func TestReportForgets(t *testing.T) {
	for _, nr := range []bool{false, true} {
		for _, most := range []int{0, 2, maxGaps} {
			p := several(t, 7, nr)
			p.report(1, most)
			p.notDue()
			if len(p.box.Dups()) != 0 {
				t.Errorf("Dups = %v", p.box.Dups())
			}
			above := p.box.Above()
			if c := p.report(1, most); len(c.Dups) != 0 || len(p.box.Above()) != len(above) {
				t.Errorf("Report = %+v", c)
			}
			p.hears(0, 90)
			p.dueAt(290) // the first packet behind a report, and a report was made
		}
	}
}

// P19.6

func TestTellings(t *testing.T) {
	for _, nr := range []bool{false, true} {
		b := several(t, top-3, nr).box
		cum := uint32(top - 3)
		if b.Cum() != cum {
			t.Errorf("Cum = %d", b.Cum())
		}
		if want := []uint32{cum + 3, cum + 4, cum + 5, cum + 6, cum + 8, cum + 9, cum + 20, cum + 65535}; !slices.Equal(b.Above(), want) {
			t.Errorf("Above = %v", b.Above())
		}
		if want := []uint32{cum + 4, cum + 6, cum + 8, cum + 65535}; !slices.Equal(b.Fixed(), want) {
			t.Errorf("Fixed = %v", b.Fixed())
		}
		if want := []uint32{cum, cum + 4, cum + 3, cum, cum - 7}; !slices.Equal(b.Dups(), want) {
			t.Errorf("Dups = %v", b.Dups())
		}
		for d, has := range map[uint32]bool{0: true, 1: false, 2: false, 3: true, 7: false, 9: true, 10: false, 65534: false, 65535: true, 65536: false, 65536 + 3: false, half - 1: false, half: true, half + 1: true, top: true} {
			if b.Has(cum+d) != has {
				t.Errorf("Has at %d is %v", d, !has)
			}
		}
	}
}

// What is told, what is handed in, and two boxes

func TestToldIsTheCallers(t *testing.T) {
	for _, nr := range []bool{false, true} {
		p := several(t, 7, nr)
		first, second := p.box.Dups(), p.box.Dups()
		spoil(first, 1)
		if !slices.Equal(second, p.model.dups) {
			t.Error("two answers share memory")
		}
		_ = append(second, 3)
		p.look() // spoils what Above, Fixed and Dups tell
		c, e := p.box.Report(1, maxGaps)
		want, _ := p.model.report(1, maxGaps)
		other, _ := p.box.Report(1, maxGaps)
		spoilChunk(other)
		if e != 0 || !sameChunk(c, want) {
			t.Errorf("Report = %+v, %d", c, e)
		}
		spoilChunk(c)
		p.look()
		p.twice(p.at(0, -1, -2)...) // no new duplicate is written into what was told
		if c.Dups[0] != 77 || c.Dups[1] != 77 {
			t.Errorf("what was told has changed: %v", c.Dups)
		}
		p.report(1, maxGaps)
	}
}

func TestReportSharesNothing(t *testing.T) {
	p := several(t, 7, true)
	dups := p.box.Dups()
	c, _ := p.box.Report(1, 2)
	_ = append(c.Dups, 1, 2, 3)
	_ = append(c.Gaps, gap(1, 1), gap(1, 1))
	if !slices.Equal(c.NR, []api.Gap{gap(4, 4), gap(6, 6)}) || !slices.Equal(dups, p.model.dups) {
		t.Error("lists of answers share memory")
	}
}

func TestTwoBoxes(t *testing.T) {
	a, b := several(t, 7, true), several(t, 7, true)
	a.new(a.at(2)...)
	a.fixes(1, a.at(2)...)
	a.twice(a.at(0)...)
	a.hears(0, 5)
	b.look()
	b.drops(true, b.at(3)...)
	b.report(3, 9)
	a.look()
	a.dueAt(5)
	b.notDue()
}

func TestTellingsChangeNothing(t *testing.T) {
	a, b := several(t, top-3, true), several(t, top-3, true)
	for range 3 {
		a.look()
	}
	if !reflect.DeepEqual(a.box, b.box) {
		t.Error("asking has changed a box")
	}
}

// P19.7

// came holds a report with room for all against what came.
func (p *pair) came(c api.Chunk) {
	p.t.Helper()
	s, e := spans.From(c.TSN, append(slices.Clone(c.Gaps), c.NR...)...)
	if e != 0 || s.Cum() != p.box.Cum() || !slices.Equal(s.All(), p.box.Above()) {
		p.t.Fatalf("spans.From of %+v is not what came: %d", c, e)
	}
}

func TestReportIsTrue(t *testing.T) {
	for i, p := range pairs(t) {
		roll := rand.New(rand.NewSource(int64(i)))
		for range 25 {
			for range 1 + roll.Intn(12) {
				p.some(roll, 20)
			}
			p.came(p.report(roll.Uint32(), maxGaps))
		}
	}
}

// P19.8

func TestEverySecondPacket(t *testing.T) {
	for i, p := range pairs(t) {
		roll := rand.New(rand.NewSource(int64(i)))
		for range 40 {
			now, later := roll.Intn(maxTime), roll.Intn(maxTime)
			p.hears(0, now)
			p.some(roll, 9)
			p.hears(1, -1)
			p.hears(0, later)
			p.dueAt(later)
			if roll.Intn(2) == 0 {
				p.report(1, 1)
			}
		}
	}
}

// P19.9

func TestFixedIsKept(t *testing.T) {
	for i, p := range pairs(t) {
		if !p.model.nr {
			continue
		}
		roll := rand.New(rand.NewSource(int64(i)))
		p.new(p.at(40)...)
		kept := p.at(40)[0]
		p.fixes(1, kept)
		for whole(p.model.cum, kept) > 0 {
			p.some(roll, 60)
			p.drops(false, kept)
			c := p.report(1, maxGaps)
			d := whole(c.TSN, kept)
			told := slices.ContainsFunc(c.NR, func(g api.Gap) bool { return int64(g.Start) <= d && d <= int64(g.End) })
			if told != (d > 0) || !p.box.Has(kept) {
				t.Fatalf("at distance %d: %+v", d, c)
			}
			if roll.Intn(3) == 0 {
				p.come(p.at(1)[0])
			}
		}
	}
}

// Drawn rows of calls

// some is one call that changes TSNs near cum.
func (p *pair) some(roll *rand.Rand, wide int) {
	p.t.Helper()
	tsn := p.at(int64(roll.Intn(wide) - 3))[0]
	switch roll.Intn(8) {
	case 0, 1, 2, 3:
		p.come(tsn)
	case 4:
		fixed, above := p.model.above[tsn]
		p.drops(above && !fixed, tsn)
	case 5, 6:
		p.fixSome(roll, wide)
	case 7:
		p.come(p.at(1)[0])
	}
	p.look()
}

func (p *pair) fixSome(roll *rand.Rand, wide int) {
	p.t.Helper()
	var tsns []uint32
	anew := map[uint32]bool{}
	for range roll.Intn(5) {
		tsn := p.at(int64(roll.Intn(wide) - 3))[0]
		tsns = append(tsns, tsn)
		if fixed, above := p.model.above[tsn]; above && !fixed {
			anew[tsn] = true
		}
	}
	p.fixes(len(anew), tsns...)
}

func TestDrawnCalls(t *testing.T) {
	for i, p := range pairs(t) {
		roll := rand.New(rand.NewSource(int64(i)))
		for step := range 400 {
			switch roll.Intn(10) {
			case 0:
				p.hears(0, roll.Intn(1000))
			case 1:
				p.report(roll.Uint32(), []int{0, 1, 2, 3, maxGaps}[roll.Intn(5)])
			default:
				p.some(roll, []int{8, 40, 300}[step/150])
			}
		}
	}
}

// edgeTSN is a TSN at or near a distance from cum at which something changes.
func (p *pair) edgeTSN(roll *rand.Rand) uint32 {
	d := []int64{0, 0, 1, 2, 3, 64, 65535, 65535, 65536, 131072, math.MaxInt32, math.MinInt32, -1, -65536}[roll.Intn(14)]
	return p.at(d)[0] + uint32(roll.Intn(5)-2)
}

func TestDrawnCallsAtEdges(t *testing.T) {
	times := append(wrongTimes(), 0, 1, 70, maxTime-1, maxTime)
	mosts := append(wrongMosts(), 0, 1, 2, 7, maxGaps-1, maxGaps)
	for i, p := range pairs(t) {
		roll := rand.New(rand.NewSource(int64(i)))
		for range 400 {
			tsn := p.edgeTSN(roll)
			switch roll.Intn(6) {
			case 0, 1:
				p.come(tsn)
			case 2:
				if got, want := p.box.Drop(tsn), p.model.drop(tsn); got != want {
					t.Fatalf("Drop(%d) = %v", tsn, got)
				}
			case 3:
				row := []uint32{tsn, p.edgeTSN(roll), tsn, p.edgeTSN(roll)}
				if got, want := p.box.Fix(row...), p.model.fix(row); got != want {
					t.Fatalf("Fix(%v) = %d, want %d", row, got, want)
				}
			case 4:
				now := times[roll.Intn(len(times))]
				if got, want := p.box.Heard(now), p.model.heard(now); got != want {
					t.Fatalf("Heard(%d) = %d, want %d", now, got, want)
				}
			case 5:
				p.report(roll.Uint32(), mosts[roll.Intn(len(mosts))])
			}
			p.look()
		}
	}
}

func TestTheSameCallsAnswerTheSame(t *testing.T) {
	a, b := several(t, top-3, true), several(t, top-3, true)
	rollA, rollB := rand.New(rand.NewSource(5)), rand.New(rand.NewSource(5))
	for range 200 {
		a.some(rollA, 30)
		b.some(rollB, 30)
		if !sameChunk(a.report(3, 9), b.report(3, 9)) {
			t.Fatal("the same calls answer otherwise")
		}
	}
}

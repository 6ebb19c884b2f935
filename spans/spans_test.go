package spans

import (
	"math"
	"slices"
	"testing"

	"ropewalk/api"
)

const half = 1 << 31

// cums are cumulative TSNs from which the tests begin: far from the wrap, at it, and so near that the numbers above lie on both sides.
func cums() []uint32 {
	return []uint32{0, 1, 10, 63, 64, 65535, 65536, 100000, half - 1, half, half + 1, 4294967295 - 65536, 4294967295 - 65535, 4294967295 - 40000, 4294967290, 4294967293, 4294967294, 4294967295}
}

// model is a set by the chapter's words alone: cum, and the numbers above it.
type model struct {
	cum   uint32
	above map[uint32]bool
}

func newModel(cum uint32) *model { return &model{cum, map[uint32]bool{}} }

// from is the distance from cum to a number.
func (m *model) from(tsn uint32) int64 { return int64(int32(tsn - m.cum)) }

func (m *model) has(tsn uint32) bool { return m.from(tsn) <= 0 || m.above[tsn] }

func (m *model) add(tsn uint32) (bool, api.Errno) {
	if m.has(tsn) {
		return false, api.OK
	}
	if m.from(tsn) > 65535 {
		return false, api.ErrFar
	}
	m.above[tsn] = true
	for m.above[m.cum+1] {
		delete(m.above, m.cum+1)
		m.cum++
	}
	return true, api.OK
}

func (m *model) del(tsn uint32) bool {
	was := m.above[tsn]
	delete(m.above, tsn)
	return was
}

func (m *model) all() []uint32 {
	var all []uint32
	for d := uint32(1); d <= 65535; d++ {
		if m.above[m.cum+d] {
			all = append(all, m.cum+d)
		}
	}
	return all
}

func (m *model) high() uint32 {
	if all := m.all(); len(all) > 0 {
		return all[len(all)-1]
	}
	return m.cum
}

func (m *model) gaps() []api.Gap {
	var gaps []api.Gap
	for _, tsn := range m.all() {
		d := uint16(tsn - m.cum)
		if n := len(gaps); n > 0 && gaps[n-1].End == d-1 {
			gaps[n-1].End = d
		} else {
			gaps = append(gaps, api.Gap{Start: d, End: d})
		}
	}
	return gaps
}

func (m *model) missing() []uint32 {
	var missing []uint32
	for tsn, high := m.cum, m.high(); tsn != high; tsn++ {
		if !m.has(tsn) {
			missing = append(missing, tsn)
		}
	}
	return missing
}

// first is the beginning of a list that has most items at most.
func first[T any](list []T, most int) []T {
	return list[:min(len(list), max(most, 0))]
}

// check holds all that a set tells against the model.
func check(t *testing.T, s *Set, m *model) {
	t.Helper()
	all, gaps, missing := m.all(), m.gaps(), m.missing()
	if s.Cum() != m.cum || s.Count() != len(all) || s.High() != m.high() {
		t.Fatalf("Cum %d, Count %d, High %d, want %d, %d, %d", s.Cum(), s.Count(), s.High(), m.cum, len(all), m.high())
	}
	if got := s.All(); !slices.Equal(got, all) {
		t.Fatalf("All = %v, want %v", got, all)
	}
	for _, most := range []int{math.MinInt, -1, 0, 1, 2, 3, len(gaps) - 1, len(gaps), len(gaps) + 1, len(missing) - 1, len(missing), len(missing) + 1, math.MaxInt - 1, math.MaxInt} {
		if got := s.Gaps(most); !slices.Equal(got, first(gaps, most)) {
			t.Fatalf("Gaps(%d) = %v, want %v", most, got, first(gaps, most))
		}
		if got := s.Missing(most); !slices.Equal(got, first(missing, most)) {
			t.Fatalf("Missing(%d) = %v, want %v", most, got, first(missing, most))
		}
	}
}

// checkHas asks for the numbers near cum, near all edges, and for those that the model has.
func checkHas(t *testing.T, s *Set, m *model) {
	t.Helper()
	asked, high := m.all(), m.high()
	for _, d := range edges() {
		asked = append(asked, m.cum+d)
	}
	for d := range uint32(300) {
		asked = append(asked, m.cum-150+d, high-150+d, m.cum+65536+d)
	}
	for _, tsn := range asked {
		if s.Has(tsn) != m.has(tsn) {
			t.Fatalf("cum %d: Has(%d) = %v", m.cum, tsn, s.Has(tsn))
		}
	}
}

// edges are distances, cut to 32 bits, at which something changes.
func edges() []uint32 {
	list := []uint32{0, 1, 2, 3, 63, 64, 65, 65534, 65535, 65536, 65537, 65538, 65600, 131070, 131071, 131072, 131073, 131074}
	for _, around := range []uint32{half - 65536, half, half + 65536, 0, 1<<32 - 65536} {
		list = append(list, around-2, around-1, around, around+1, around+2)
	}
	return list
}

// must adds numbers that are new.
func must(t *testing.T, s *Set, tsns ...uint32) {
	t.Helper()
	for _, tsn := range tsns {
		if ok, e := s.Add(tsn); !ok || e != api.OK {
			t.Fatalf("Add(%d) = %v, %d", tsn, ok, e)
		}
	}
}

// fromGaps is the set of blocks that there may be.
func fromGaps(t *testing.T, cum uint32, gaps ...api.Gap) *Set {
	t.Helper()
	s, e := From(cum, gaps...)
	if e != api.OK || s == nil {
		t.Fatalf("From(%d, %v) = %v, %d", cum, gaps, s, e)
	}
	return s
}

// rolls are numbers that hang on the seed alone.
func rolls(seed uint32) func(n uint32) uint32 {
	return func(n uint32) uint32 {
		seed = seed*1664525 + 1013904223
		return (seed >> 8) % n
	}
}

// P3.1

func TestNewIsCumAlone(t *testing.T) {
	for _, cum := range cums() {
		s := New(cum)
		check(t, s, newModel(cum))
		checkHas(t, s, newModel(cum))
	}
}

func TestFromWithoutBlocks(t *testing.T) {
	for _, cum := range cums() {
		check(t, fromGaps(t, cum), newModel(cum))
		check(t, fromGaps(t, cum, []api.Gap{}...), newModel(cum))
	}
}

func TestFromBlocks(t *testing.T) {
	lists := [][]api.Gap{
		{{Start: 2, End: 2}},
		{{Start: 2, End: 3}},
		{{Start: 3, End: 3}, {Start: 2, End: 2}},
		{{Start: 2, End: 65535}},
		{{Start: 65535, End: 65535}},
		{{Start: 65535, End: 65535}, {Start: 2, End: 2}},
		{{Start: 5, End: 9}, {Start: 5, End: 9}, {Start: 5, End: 9}},
		{{Start: 5, End: 9}, {Start: 6, End: 8}, {Start: 4, End: 5}, {Start: 9, End: 11}},
		{{Start: 6, End: 8}, {Start: 5, End: 20}, {Start: 7, End: 7}, {Start: 21, End: 21}, {Start: 23, End: 23}},
		{{Start: 100, End: 200}, {Start: 10, End: 20}, {Start: 150, End: 160}, {Start: 15, End: 30}, {Start: 1000, End: 1063}},
		{{Start: 64, End: 127}, {Start: 129, End: 192}, {Start: 2, End: 62}},
	}
	for _, cum := range cums() {
		for _, gaps := range lists {
			m := newModel(cum)
			for _, gap := range gaps {
				for d := int(gap.Start); d <= int(gap.End); d++ {
					m.above[cum+uint32(d)] = true
				}
			}
			if len(m.above) < 1000 {
				check(t, fromGaps(t, cum, gaps...), m)
			}
			s := fromGaps(t, cum, gaps...)
			checkHas(t, s, m)
			if s.Cum() != cum || s.Count() != len(m.above) || !slices.Equal(s.Gaps(99), m.gaps()) || !slices.Equal(s.All(), m.all()) {
				t.Errorf("From(%d, %v): Cum %d, Count %d, Gaps %v", cum, gaps, s.Cum(), s.Count(), s.Gaps(99))
			}
		}
	}
}

func TestFromNoBlock(t *testing.T) {
	good := api.Gap{Start: 2, End: 9}
	for _, bad := range []api.Gap{{}, {Start: 0, End: 1}, {Start: 0, End: 65535}, {Start: 1, End: 1}, {Start: 1, End: 2}, {Start: 1, End: 65535}, {Start: 2, End: 1}, {Start: 2, End: 0}, {Start: 3, End: 2}, {Start: 65535, End: 65534}, {Start: 65535, End: 0}} {
		for _, gaps := range [][]api.Gap{{bad}, {bad, good}, {good, bad}, {good, bad, good}, {bad, bad}} {
			if s, e := From(10, gaps...); s != nil || e != api.ErrGap {
				t.Errorf("From(10, %v) = %v, %d", gaps, s, e)
			}
		}
	}
}

func TestFromMany(t *testing.T) {
	gaps := make([]api.Gap, 4097)
	for i := range gaps {
		gaps[i] = api.Gap{Start: uint16(65000 - 3*i), End: uint16(65001 - 3*i)}
	}
	if s, e := From(7, gaps...); s != nil || e != api.ErrMany {
		t.Errorf("4097 blocks: %d", e)
	}
	s := fromGaps(t, 7, gaps[:4096]...)
	if s.Count() != 2*4096 || len(s.Gaps(9999)) != 4096 || s.High() != 7+65001 {
		t.Errorf("4096 blocks: %d numbers, %d blocks", s.Count(), len(s.Gaps(9999)))
	}
	if _, e := From(7, make([]api.Gap, 4096)...); e != api.ErrGap {
		t.Errorf("4096 that are no blocks: %d", e)
	}
	if _, e := From(7, make([]api.Gap, 4097)...); e != api.ErrMany {
		t.Errorf("4097 that are no blocks: %d", e)
	}
}

func TestFromManyGreatBlocks(t *testing.T) {
	gaps := make([]api.Gap, 4096)
	for i := range gaps {
		gaps[i] = api.Gap{Start: 2, End: uint16(65535 - i)}
	}
	if s := fromGaps(t, 4294967000, gaps...); s.Count() != 65534 || s.High() != 65535-296 {
		t.Errorf("Count %d, High %d", s.Count(), s.High())
	}
}

// P3.2

func TestAddAtEdges(t *testing.T) {
	for _, cum := range cums() {
		for _, d := range edges() {
			s, m := New(cum), newModel(cum)
			ok, e := s.Add(cum + d)
			if wantOk, want := m.add(cum + d); ok != wantOk || e != want {
				t.Errorf("cum %d: Add(%d) = %v, %d", cum, cum+d, ok, e)
			}
			if s.Cum() != m.cum || s.Count() != len(m.above) || s.High() != m.high() {
				t.Errorf("cum %d, Add(%d): Cum %d, Count %d, High %d", cum, cum+d, s.Cum(), s.Count(), s.High())
			}
		}
	}
}

func TestAddAnswers(t *testing.T) {
	for _, c := range []struct {
		distance uint32
		ok       bool
		e        api.Errno
	}{
		{0, false, api.OK}, {1, true, api.OK}, {2, true, api.OK}, {65535, true, api.OK},
		{65536, false, api.ErrFar}, {half - 1, false, api.ErrFar},
		{half, false, api.OK}, {half + 1, false, api.OK}, {1<<32 - 1, false, api.OK},
	} {
		for _, cum := range cums() {
			if ok, e := New(cum).Add(cum + c.distance); ok != c.ok || e != c.e {
				t.Errorf("cum %d, at %d: %v, %d", cum, c.distance, ok, e)
			}
		}
	}
}

func TestAddAgain(t *testing.T) {
	s := New(4294967290)
	must(t, s, 4294967294, 3, 65529)
	before := *s
	for _, tsn := range []uint32{4294967294, 3, 65529, 4294967290, 5000 + half} {
		if ok, e := s.Add(tsn); ok || e != api.OK {
			t.Errorf("Add(%d) again: %v, %d", tsn, ok, e)
		}
	}
	if _, e := s.Add(65530); e != api.ErrFar {
		t.Errorf("too far: %d", e)
	}
	if *s != before {
		t.Error("what was answered with false changed the set")
	}
}

func TestAddRunsOn(t *testing.T) {
	for _, cum := range cums() {
		s, m := New(cum), newModel(cum)
		for _, d := range []uint32{3, 2, 5, 7, 4, 65535, 1, 6, 9, 10, 8, 11} {
			must(t, s, cum+d)
			m.add(cum + d)
			if s.Cum() != m.cum || s.Count() != len(m.above) || !slices.Equal(s.All(), m.all()) {
				t.Fatalf("cum %d, Add at %d: Cum %d, All %v", cum, d, s.Cum(), s.All())
			}
		}
		if s.Cum() != cum+11 || !slices.Equal(s.Gaps(9), []api.Gap{{Start: 65524, End: 65524}}) {
			t.Errorf("cum %d: Cum %d, Gaps %v", cum, s.Cum(), s.Gaps(9))
		}
	}
}

func TestAddReachesFurtherWithCum(t *testing.T) {
	for _, cum := range cums() {
		s := fromGaps(t, cum, api.Gap{Start: 2, End: 65535})
		must(t, s, cum+1)
		if s.Cum() != cum+65535 || s.Count() != 0 || s.High() != s.Cum() || s.Gaps(9) != nil {
			t.Fatalf("cum %d: Cum %d, Count %d", cum, s.Cum(), s.Count())
		}
		if _, e := s.Add(cum + 65535 + 65536); e != api.ErrFar {
			t.Errorf("cum %d: 65536 above: %d", cum, e)
		}
		must(t, s, cum+65535+65535)
		if !slices.Equal(s.Gaps(9), []api.Gap{{Start: 65535, End: 65535}}) || len(s.Missing(99999)) != 65534 {
			t.Errorf("cum %d: Gaps %v, %d missing", cum, s.Gaps(9), len(s.Missing(99999)))
		}
	}
}

// P3.3

func TestDelAndHas(t *testing.T) {
	for _, cum := range cums() {
		s, m := New(cum), newModel(cum)
		for _, d := range []uint32{2, 4, 5, 6, 7, 64, 65, 66, 1000, 65535} {
			must(t, s, cum+d)
			m.add(cum + d)
		}
		for _, d := range append(edges(), 5, 4, 7, 6, 66, 64, 65, 1000) {
			if ok := s.Del(cum + d); ok != m.del(cum+d) {
				t.Errorf("cum %d: Del at %d = %v", cum, d, ok)
			}
			if s.Has(cum+d) != m.has(cum+d) || s.Del(cum+d) {
				t.Errorf("cum %d: behind Del at %d", cum, d)
			}
			if !slices.Equal(s.Gaps(99), m.gaps()) || s.Count() != len(m.above) || s.Cum() != cum {
				t.Errorf("cum %d: behind Del at %d: Gaps %v, want %v", cum, d, s.Gaps(99), m.gaps())
			}
		}
		check(t, s, newModel(cum))
	}
}

func TestDelOfWhatIsNotAbove(t *testing.T) {
	s := New(10)
	must(t, s, 12, 14)
	before := *s
	for _, tsn := range []uint32{10, 9, 0, 4294967295, 10 + half, 11 + half, 11, 13, 15, 12 + 65536, 14 + 65536, 9 + half} {
		if s.Del(tsn) {
			t.Errorf("Del(%d) = true", tsn)
		}
	}
	if *s != before {
		t.Error("a Del that answers false changed the set")
	}
}

func TestDelOpensAGapAgain(t *testing.T) {
	s := New(4294967294)
	must(t, s, 0, 1, 2)
	if !s.Del(1) || !slices.Equal(s.Gaps(9), []api.Gap{{Start: 2, End: 2}, {Start: 4, End: 4}}) {
		t.Errorf("Gaps = %v", s.Gaps(9))
	}
	must(t, s, 4294967295)
	if s.Cum() != 0 || !slices.Equal(s.Missing(9), []uint32{1}) {
		t.Errorf("Cum = %d, Missing = %v", s.Cum(), s.Missing(9))
	}
	if s.Del(0) || s.Del(4294967295) {
		t.Error("what cum reached is not taken out")
	}
}

// P3.4, and all of the above in any mixture

func TestLikeTheModel(t *testing.T) {
	for i, cum := range cums() {
		s, m := New(cum), newModel(cum)
		roll := rolls(uint32(i))
		for step := range 400 {
			wide := []uint32{8, 40, 200}[step/150]
			tsn := m.cum - 2 + roll(wide)
			if roll(4) == 0 {
				if s.Del(tsn) != m.del(tsn) {
					t.Fatalf("Del(%d)", tsn)
				}
			} else {
				ok, e := s.Add(tsn)
				if wantOk, want := m.add(tsn); ok != wantOk || e != want {
					t.Fatalf("Add(%d) = %v, %d", tsn, ok, e)
				}
			}
			if step%20 == 0 {
				check(t, s, m)
				checkHas(t, s, m)
			}
		}
		check(t, s, m)
	}
}

func TestTellingsOfAGreatSet(t *testing.T) {
	for _, cum := range []uint32{10, 4294967295 - 30000} {
		s := New(cum)
		var all, missing []uint32
		var gaps []api.Gap
		for d := uint32(1); d < 65535; d += 2 {
			missing = append(missing, cum+d)
			all = append(all, cum+d+1)
			gaps = append(gaps, api.Gap{Start: uint16(d + 1), End: uint16(d + 1)})
			must(t, s, cum+d+1)
		}
		if s.Count() != 32767 || s.High() != cum+65534 || !slices.Equal(s.All(), all) {
			t.Errorf("Count %d, High %d", s.Count(), s.High())
		}
		for _, most := range []int{0, 1, 100, 32766, 32767, 32768, math.MaxInt} {
			if !slices.Equal(s.Gaps(most), first(gaps, most)) || !slices.Equal(s.Missing(most), first(missing, most)) {
				t.Errorf("Gaps or Missing of %d", most)
			}
		}
	}
}

func TestTellingsChangeNothing(t *testing.T) {
	s := fromGaps(t, 4294967290, api.Gap{Start: 2, End: 9}, api.Gap{Start: 70, End: 200})
	before := *s
	s.Cum()
	s.Has(5)
	s.Count()
	s.All()
	s.High()
	s.Gaps(9)
	s.Missing(9)
	if *s != before {
		t.Error("the set changed")
	}
}

// P3.5

func TestThereAndBack(t *testing.T) {
	for i, cum := range cums() {
		s := New(cum)
		roll := rolls(uint32(i) + 77)
		for range 300 {
			if _, e := s.Add(cum + roll(65500)); e != api.OK {
				t.Fatal(e)
			}
			s.Add(s.High() + 1)
			s.Del(cum + roll(65500))
		}
		back := fromGaps(t, s.Cum(), s.Gaps(math.MaxInt)...)
		if *back != *s {
			t.Errorf("cum %d: not the same set", cum)
		}
		if back.Cum() != s.Cum() || back.Count() != s.Count() || !slices.Equal(back.All(), s.All()) || !slices.Equal(back.Gaps(9999), s.Gaps(9999)) || !slices.Equal(back.Missing(99999), s.Missing(99999)) {
			t.Errorf("cum %d: there and back tells otherwise", cum)
		}
	}
}

// P3.6

func TestAnyOrder(t *testing.T) {
	for i, cum := range cums() {
		var tsns []uint32
		roll := rolls(uint32(i) + 7)
		for range 200 {
			tsns = append(tsns, cum+roll(150))
		}
		tsns = append(tsns, cum+60000, cum+5, cum+60000)
		one := New(cum)
		for _, tsn := range tsns {
			one.Add(tsn)
		}
		for range 20 {
			for k := len(tsns) - 1; k > 0; k-- {
				j := roll(uint32(k + 1))
				tsns[k], tsns[j] = tsns[j], tsns[k]
			}
			other := New(cum)
			for _, tsn := range tsns {
				if _, e := other.Add(tsn); e != api.OK {
					t.Fatal(e)
				}
			}
			if *one != *other || !slices.Equal(one.All(), other.All()) || one.Cum() != other.Cum() {
				t.Fatalf("cum %d: another order, another set", cum)
			}
		}
	}
}

// P3.7

func TestAllOrMissing(t *testing.T) {
	for i, cum := range cums() {
		s := New(cum)
		roll := rolls(uint32(i) + 99)
		for range 500 {
			s.Add(cum + roll(3000))
		}
		all, missing := s.All(), s.Missing(math.MaxInt)
		for tsn := s.Cum() + 1; tsn != s.High()+1; tsn++ {
			if len(all) > 0 && all[0] == tsn {
				all = all[1:]
			} else if len(missing) > 0 && missing[0] == tsn {
				missing = missing[1:]
			} else {
				t.Fatalf("cum %d: %d is in neither", cum, tsn)
			}
		}
		if len(all) > 0 || len(missing) > 0 {
			t.Errorf("cum %d: beyond: %v, %v", cum, all, missing)
		}
	}
}

// A set that nobody made, and the rules

func TestSetThatNobodyMade(t *testing.T) {
	for name, s := range map[string]*Set{"nil": nil, "zero": {}} {
		for _, tsn := range []uint32{0, 1, 2, 65535, 65536, half, 4294967295} {
			if ok, e := s.Add(tsn); ok || e != api.ErrNil {
				t.Errorf("%s: Add(%d) = %v, %d", name, tsn, ok, e)
			}
			if s.Has(tsn) || s.Del(tsn) {
				t.Errorf("%s: %d is in", name, tsn)
			}
		}
		if s.Cum() != 0 || s.Count() != 0 || s.High() != 0 || len(s.All()) != 0 || len(s.Gaps(9)) != 0 || len(s.Missing(9)) != 0 {
			t.Errorf("%s tells something", name)
		}
		if s != nil && *s != (Set{}) {
			t.Errorf("%s changed", name)
		}
	}
}

func TestBlocksAreNotChangedNorKept(t *testing.T) {
	gaps := []api.Gap{{Start: 9, End: 9}, {Start: 2, End: 3}, {Start: 5, End: 6}}
	s := fromGaps(t, 10, gaps...)
	if !slices.Equal(gaps, []api.Gap{{Start: 9, End: 9}, {Start: 2, End: 3}, {Start: 5, End: 6}}) {
		t.Errorf("changed: %v", gaps)
	}
	clear(gaps)
	if !slices.Equal(s.Gaps(9), []api.Gap{{Start: 2, End: 3}, {Start: 5, End: 6}, {Start: 9, End: 9}}) {
		t.Errorf("kept: %v", s.Gaps(9))
	}
}

func TestAnswersAreNewMemory(t *testing.T) {
	s := fromGaps(t, 10, api.Gap{Start: 2, End: 3}, api.Gap{Start: 6, End: 6})
	before, all, gaps, missing := *s, s.All(), s.Gaps(9), s.Missing(9)
	clear(s.All())
	clear(s.Gaps(9))
	clear(s.Missing(9))
	if *s != before || !slices.Equal(all, []uint32{12, 13, 16}) || !slices.Equal(missing, []uint32{11, 14, 15}) || !slices.Equal(gaps, []api.Gap{{Start: 2, End: 3}, {Start: 6, End: 6}}) {
		t.Errorf("All %v, Gaps %v, Missing %v", all, gaps, missing)
	}
	must(t, s, 11, 14)
	s.Del(16)
	if !slices.Equal(all, []uint32{12, 13, 16}) || !slices.Equal(missing, []uint32{11, 14, 15}) || !slices.Equal(gaps, []api.Gap{{Start: 2, End: 3}, {Start: 6, End: 6}}) {
		t.Errorf("an answer changed with the set: All %v, Gaps %v, Missing %v", all, gaps, missing)
	}
}

func TestSetsKnowNothingOfOneAnother(t *testing.T) {
	one, other := New(10), New(10)
	must(t, one, 12, 11, 20)
	check(t, other, newModel(10))
	copied := *one
	must(t, &copied, 15)
	if one.Has(15) || one.Count() != 1 || copied.Count() != 2 {
		t.Error("a copy and its set are one")
	}
}

// The chapter's examples

func TestExamples(t *testing.T) {
	s := New(10)
	must(t, s, 12, 14, 13)
	if !slices.Equal(s.Gaps(9), []api.Gap{{Start: 2, End: 4}}) || !slices.Equal(s.Missing(9), []uint32{11}) {
		t.Errorf("Gaps %v, Missing %v", s.Gaps(9), s.Missing(9))
	}
	must(t, s, 11)
	if s.Cum() != 14 || len(s.Gaps(9)) != 0 {
		t.Errorf("Cum %d, Gaps %v", s.Cum(), s.Gaps(9))
	}
	s = New(10)
	if ok, e := s.Add(10); ok || e != api.OK {
		t.Errorf("Add(10) = %v, %d", ok, e)
	}
	if ok, e := s.Add(10 + 65536); ok || e != api.ErrFar {
		t.Errorf("Add(10 + 65536) = %v, %d", ok, e)
	}
	if s := fromGaps(t, 10, api.Gap{Start: 3, End: 3}, api.Gap{Start: 2, End: 2}); !slices.Equal(s.Gaps(9), []api.Gap{{Start: 2, End: 3}}) {
		t.Errorf("Gaps %v", s.Gaps(9))
	}
	if s, e := From(10, api.Gap{Start: 1, End: 2}); s != nil || e != api.ErrGap {
		t.Errorf("From(10, 1-2): %d", e)
	}
}

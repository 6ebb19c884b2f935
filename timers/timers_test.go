package timers

import (
	"math"
	"math/rand"
	"slices"
	"testing"

	"ropewalk/api"
)

// ids are numbers at the edges, good and bad ones.
func ids() []int {
	return []int{math.MinInt, math.MinInt32, -4096, -1, 0, 1, 4094, 4095, 4096, 4097, 1 << 32, 1<<32 + 1, math.MaxInt}
}

// times are such times.
func times() []int {
	return []int{math.MinInt, -maxTime, -1, 0, 1, 1 << 32, maxTime - 1, maxTime, maxTime + 1, math.MaxInt}
}

func goodID(id int) bool     { return 0 <= id && id <= 4095 }
func goodTime(time int) bool { return 0 <= time && time <= maxTime }

// several is a few timers of different times and of one, set in no order.
func several() []api.Due {
	return []api.Due{{ID: 7, Time: 70}, {ID: 3, Time: 50}, {ID: 4095, Time: 20}, {ID: 1, Time: 50}, {ID: 0, Time: 90}, {ID: 2, Time: 40}, {ID: 12, Time: 50}, {ID: 5, Time: 0}, {ID: 40, Time: maxTime}}
}

// every is all 4096 timers, in an order and at times that hang on the seed alone, so few that many share one.
func every(seed int64) []api.Due {
	r := rand.New(rand.NewSource(seed))
	var list []api.Due
	for _, id := range r.Perm(most) {
		list = append(list, api.Due{ID: id, Time: r.Intn(500)})
	}
	return list
}

// tellsAll holds what is set against a list, in order.
func tellsAll(t *testing.T, x *Table, want ...api.Due) {
	t.Helper()
	if all := x.All(); !slices.Equal(all, want) || x.Len() != len(want) {
		t.Errorf("All = %v, Len %d, want %v", all, x.Len(), want)
	}
}

// tells holds what Due answers without an error against a list.
func tells(t *testing.T, x *Table, now int, want ...api.Due) {
	t.Helper()
	if told, e := x.Due(now); e != api.OK || !slices.Equal(told, want) {
		t.Errorf("Due(%d) = %v, %d, want %v", now, told, e, want)
	}
}

// refuses holds that Due answers ErrTimer and nothing else.
func refuses(t *testing.T, x *Table, now int) {
	t.Helper()
	if told, e := x.Due(now); e != 80 || len(told) != 0 {
		t.Errorf("Due(%d) = %v, %d, want none, 80", now, told, e)
	}
}

func TestErrorsAreTheirNumbers(t *testing.T) {
	if api.OK != 0 || api.ErrArg != 1 || api.ErrNil != 4 || api.ErrTimer != 80 || api.MaxTimers != most || api.MaxTime != maxTime {
		t.Error("another number")
	}
}

func TestExample(t *testing.T) {
	x := New()
	x.Set(3, 50)
	x.Set(1, 50)
	x.Set(2, 40)
	if d, ok := x.Next(); d != (api.Due{ID: 2, Time: 40}) || !ok {
		t.Errorf("Next = %v, %v", d, ok)
	}
	tells(t, x, 50, api.Due{ID: 2, Time: 40}, api.Due{ID: 1, Time: 50}, api.Due{ID: 3, Time: 50})
}

// A table that nobody made

func TestUnmadeTable(t *testing.T) {
	var none *Table
	for _, x := range []*Table{none, {}, new(Table)} {
		for range 2 { // the calls change nothing: it is as it was
			for _, n := range append(ids(), times()...) {
				for _, other := range append(ids(), times()...) {
					if e := x.Set(n, other); e != 4 {
						t.Errorf("Set(%d, %d) = %d", n, other, e)
					}
				}
				if was, e := x.Stop(n); was || e != 4 {
					t.Errorf("Stop(%d) = %v, %d", n, was, e)
				}
				if at, ok := x.Get(n); at != 0 || ok {
					t.Errorf("Get(%d) = %d, %v", n, at, ok)
				}
				if told, e := x.Due(n); len(told) != 0 || e != 4 {
					t.Errorf("Due(%d) = %v, %d", n, told, e)
				}
			}
			if d, ok := x.Next(); d != (api.Due{}) || ok {
				t.Errorf("Next = %v, %v", d, ok)
			}
			if n, all := x.Len(), x.All(); n != 0 || len(all) != 0 {
				t.Errorf("Len = %d, All = %v", n, all)
			}
		}
		if x != nil && *x != (Table{}) {
			t.Error("a table that nobody made has changed")
		}
	}
}

func TestNewIsEmpty(t *testing.T) {
	if New() == nil {
		t.Fatal("none was made")
	}
	pairOf(t).look()
	p := pairOf(t)
	p.due(0)
	p.look()
}

// P8.1

func TestSetAtEdges(t *testing.T) {
	for _, id := range ids() {
		for _, due := range times() {
			p := pairOf(t)
			want := api.Errno(0)
			if !goodID(id) {
				want = 1
			} else if !goodTime(due) {
				want = 80
			}
			if e := p.table.Set(id, due); e != want {
				t.Errorf("Set(%d, %d) = %d, want %d", id, due, e, want)
			}
			p.model.set(id, due)
			p.look()
			at, ok := p.table.Get(id)
			if want == 0 && (at != due || !ok || p.table.Len() != 1) || want != 0 && (at != 0 || ok || p.table.Len() != 0) {
				t.Errorf("Set(%d, %d): Get = %d, %v, Len %d", id, due, at, ok, p.table.Len())
			}
		}
	}
}

func TestRefusedSetChangesNothing(t *testing.T) {
	p := pairOf(t, several()...)
	for _, id := range ids() {
		for _, due := range times() {
			if !goodID(id) || !goodTime(due) {
				p.set(id, due)
				p.all()
			}
		}
	}
	for _, d := range several() {
		p.set(d.ID, -1)
		p.set(d.ID, maxTime+1)
	}
	p.look()
	p.due(60)
	for _, d := range several() {
		p.set(d.ID, -1)
	}
	p.look()
}

func TestStopAtEdges(t *testing.T) {
	for _, id := range ids() {
		for _, list := range [][]api.Due{nil, several(), {{ID: 0, Time: 5}, {ID: 4095, Time: 5}, {ID: 1, Time: 5}, {ID: 4094, Time: 5}}} {
			p := pairOf(t, list...)
			p.stop(id)
			p.look()
			p.stop(id)
			p.look()
		}
		if was, e := New().Stop(id); was || goodID(id) && e != 0 || !goodID(id) && e != 1 {
			t.Errorf("Stop(%d) = %v, %d", id, was, e)
		}
	}
}

func TestGetAtEdges(t *testing.T) {
	x := New()
	for _, id := range ids() {
		if at, ok := x.Get(id); at != 0 || ok {
			t.Errorf("Get(%d) = %d, %v with none set", id, at, ok)
		}
	}
	for _, id := range []int{0, 1, 4094, 4095} {
		x.Set(id, 1000+id)
	}
	for _, id := range ids() {
		at, ok := x.Get(id)
		if ok != goodID(id) || ok && at != 1000+id || !ok && at != 0 {
			t.Errorf("Get(%d) = %d, %v", id, at, ok)
		}
	}
}

// A timer of time 0 and one that is not set differ by the bool alone.
func TestGetOfTimeZero(t *testing.T) {
	x := New()
	x.Set(0, 0)
	if at, ok := x.Get(0); at != 0 || !ok {
		t.Errorf("Get(0) = %d, %v", at, ok)
	}
	if d, ok := x.Next(); d != (api.Due{}) || !ok {
		t.Errorf("Next = %v, %v", d, ok)
	}
	tells(t, x, 0, api.Due{})
	if at, ok := x.Get(0); at != 0 || ok {
		t.Errorf("Get(0) = %d, %v", at, ok)
	}
	if d, ok := x.Next(); d != (api.Due{}) || ok {
		t.Errorf("Next = %v, %v", d, ok)
	}
}

func TestSetAnew(t *testing.T) {
	for _, d := range several() {
		for _, time := range []int{0, 1, d.Time - 1, d.Time, d.Time + 1, 20, 45, 50, 55, 1000, maxTime} {
			if !goodTime(time) {
				continue
			}
			p := pairOf(t, several()...)
			p.set(d.ID, time)
			p.look()
			if at, ok := p.table.Get(d.ID); at != time || !ok || p.table.Len() != len(several()) {
				t.Errorf("%v, set to %d: Get = %d, %v, Len %d", d, time, at, ok, p.table.Len())
			}
			p.due(50)
			p.look()
			p.due(maxTime)
			p.look()
		}
	}
}

func TestSetAnewIsToldAtTheNewTimeAlone(t *testing.T) {
	for _, c := range []struct{ was, is int }{{50, 80}, {50, 20}, {50, 50}, {50, 0}, {0, maxTime}, {maxTime, 0}} {
		x := New()
		x.Set(9, c.was)
		x.Set(9, c.is)
		tellsAll(t, x, api.Due{ID: 9, Time: c.is})
		if c.is > 0 {
			tells(t, x, c.is-1)
		}
		tells(t, x, c.is, api.Due{ID: 9, Time: c.is})
		tells(t, x, maxTime)
	}
}

func TestStopFirstMiddleLast(t *testing.T) {
	all := pairOf(t, several()...).table.All()
	for i, d := range all {
		p := pairOf(t, several()...)
		p.stop(d.ID)
		p.look()
		if at, ok := p.table.Get(d.ID); at != 0 || ok || p.table.Len() != len(all)-1 {
			t.Errorf("%v is stopped: Get = %d, %v, Len %d", d, at, ok, p.table.Len())
		}
		p.stop(d.ID)
		p.look()
		rest := slices.Delete(slices.Clone(all), i, i+1)
		tells(t, p.table, maxTime, rest...)
		p.model.due(maxTime)
		p.look()
	}
}

func TestStopAnswers(t *testing.T) {
	x := New()
	x.Set(4, 10)
	x.Set(6, 20)
	for i, c := range []struct {
		id  int
		was bool
	}{{5, false}, {4, true}, {4, false}, {6, true}, {6, false}} {
		if was, e := x.Stop(c.id); was != c.was || e != api.OK {
			t.Errorf("%d: Stop(%d) = %v, %d", i, c.id, was, e)
		}
	}
	tellsAll(t, x)
}

func TestStopOfOneThatWasTold(t *testing.T) {
	p := pairOf(t, several()...)
	p.due(50)
	p.look()
	for _, d := range several() {
		was, e := p.table.Stop(d.ID)
		if was != (d.Time > 50) || e != api.OK {
			t.Errorf("%v: Stop = %v, %d", d, was, e)
		}
		p.model.stop(d.ID)
		p.look()
	}
	tellsAll(t, p.table)
}

func TestSetBehindStop(t *testing.T) {
	p := pairOf(t, several()...)
	for _, d := range several() {
		p.stop(d.ID)
		p.set(d.ID, d.Time/2)
		p.look()
	}
	p.due(maxTime)
	for _, d := range several() {
		p.set(d.ID, d.Time)
		p.look()
	}
	p.due(maxTime)
	p.look()
}

func TestAllTimersSet(t *testing.T) {
	p := pairOf(t, every(1)...)
	if p.table.Len() != most {
		t.Fatalf("Len = %d", p.table.Len())
	}
	for id := range most {
		p.get(id)
	}
	all := p.model.all()
	tellsAll(t, p.table, all...)
	for _, d := range every(2) {
		p.set(d.ID, d.Time) // one that is set may be set, however many are
		p.next()
	}
	p.size()
	p.set(4096, 1)
	p.set(-1, 1)
	tellsAll(t, p.table, p.model.all()...)
	for i, id := range rand.New(rand.NewSource(3)).Perm(most) {
		p.stop(id)
		p.size()
		p.next()
		if i%2 == 0 {
			p.stop(id)
		}
	}
	p.look()
}

func TestAllTimersTold(t *testing.T) {
	p := pairOf(t, every(4)...)
	for now := 0; now <= 500; now += 10 {
		p.due(now)
		p.size()
		p.next()
	}
	p.look()
	tellsAll(t, p.table)
}

// P8.2

func TestOrderOfTimesAndNumbers(t *testing.T) {
	rising := []api.Due{{ID: 2, Time: 40}, {ID: 0, Time: 50}, {ID: 1, Time: 50}, {ID: 3, Time: 50}, {ID: 4095, Time: 50}, {ID: 1000, Time: 51}, {ID: 999, Time: maxTime}}
	for seed := range int64(200) {
		list := slices.Clone(rising)
		rand.New(rand.NewSource(seed)).Shuffle(len(list), func(i, j int) { list[i], list[j] = list[j], list[i] })
		p := pairOf(t, list...)
		tellsAll(t, p.table, rising...)
		p.look()
		for _, d := range rising {
			if first, ok := p.table.Next(); first != d || !ok {
				t.Errorf("Next = %v, %v, want %v", first, ok, d)
			}
			p.stop(d.ID)
		}
		p.look()
	}
}

// orders are numbers from 0 on in rising, falling and mixed order.
func orders(n int) [][]int {
	rising := make([]int, n)
	for i := range rising {
		rising[i] = i
	}
	falling := slices.Clone(rising)
	slices.Reverse(falling)
	return [][]int{rising, falling, rand.New(rand.NewSource(5)).Perm(n), rand.New(rand.NewSource(6)).Perm(n)}
}

func TestOneTimeIsByNumbers(t *testing.T) {
	for _, n := range []int{1, 2, 3, 4, 7, 8, 100, most} {
		for _, order := range orders(n) {
			x := New()
			var want []api.Due
			for i, id := range order {
				x.Set(id, 77)
				want = append(want, api.Due{ID: i, Time: 77})
				if d, ok := x.Next(); d != (api.Due{ID: slices.Min(order[:i+1]), Time: 77}) || !ok {
					t.Fatalf("Next = %v, %v", d, ok)
				}
			}
			tellsAll(t, x, want...)
			tells(t, x, 76)
			tells(t, x, 77, want...)
			tellsAll(t, x)
		}
	}
}

func TestDifferentTimesAreByTimes(t *testing.T) {
	for _, order := range orders(1000) {
		x := New()
		var want []api.Due
		for i, time := range order {
			x.Set(i, time*1000)
			want = append(want, api.Due{ID: i, Time: time * 1000})
		}
		slices.SortFunc(want, func(a, b api.Due) int { return a.Time - b.Time })
		tellsAll(t, x, want...)
		tells(t, x, 998_999, want[:999]...)
		tells(t, x, 999_000, want[999])
	}
}

func TestLookingChangesNothing(t *testing.T) {
	one, other := pairOf(t, several()...), pairOf(t, several()...)
	for range 20 {
		one.next()
		one.all()
		one.size()
		one.get(3)
	}
	for now := 0; now <= 100; now += 5 {
		one.table.Next()
		one.table.All()
		without, _ := other.table.Due(now)
		tells(t, one.table, now, without...)
	}
	tellsAll(t, one.table, other.table.All()...)
}

func TestDueAtEdges(t *testing.T) {
	for _, now := range times() {
		for _, list := range [][]api.Due{nil, {{ID: 5, Time: 0}}, {{ID: 5, Time: maxTime}}, several()} {
			p := pairOf(t, list...)
			if _, e := p.table.Due(now); e != 0 && goodTime(now) || e != 80 && !goodTime(now) {
				t.Errorf("Due(%d) = %d", now, e)
			}
			p.model.due(now)
			p.look()
			p.due(maxTime)
			p.look()
		}
	}
}

func TestDueJustAtBelowAndAbove(t *testing.T) {
	for _, now := range []int{1, 2, 100, 1 << 32, maxTime - 1} {
		x := New()
		x.Set(1, now+1)
		x.Set(2, now)
		x.Set(3, now-1)
		tells(t, x, now, api.Due{ID: 3, Time: now - 1}, api.Due{ID: 2, Time: now})
		tellsAll(t, x, api.Due{ID: 1, Time: now + 1})
		tells(t, x, now)
		tells(t, x, now+1, api.Due{ID: 1, Time: now + 1})
	}
}

func TestDueNoneSomeAll(t *testing.T) {
	x := New()
	for _, d := range []api.Due{{ID: 8, Time: 30}, {ID: 9, Time: 10}, {ID: 4, Time: 20}, {ID: 5, Time: 40}} {
		x.Set(d.ID, d.Time)
	}
	tells(t, x, 9)
	if x.Len() != 4 {
		t.Errorf("Len = %d", x.Len())
	}
	tells(t, x, 20, api.Due{ID: 9, Time: 10}, api.Due{ID: 4, Time: 20})
	tellsAll(t, x, api.Due{ID: 8, Time: 30}, api.Due{ID: 5, Time: 40})
	for _, id := range []int{9, 4} {
		if at, ok := x.Get(id); at != 0 || ok {
			t.Errorf("Get(%d) = %d, %v behind Due", id, at, ok)
		}
	}
	tells(t, x, 1000, api.Due{ID: 8, Time: 30}, api.Due{ID: 5, Time: 40})
	tellsAll(t, x)
	tells(t, x, 1000)
}

func TestDueGoesNotBack(t *testing.T) {
	x := New()
	x.Set(1, 10)
	x.Set(2, 60)
	tells(t, x, 50, api.Due{ID: 1, Time: 10})
	x.Set(3, 20)
	for _, now := range []int{49, 10, 1, 0, -1, math.MinInt} {
		refuses(t, x, now)
		tellsAll(t, x, api.Due{ID: 3, Time: 20}, api.Due{ID: 2, Time: 60})
	}
	tells(t, x, 50, api.Due{ID: 3, Time: 20})
	tells(t, x, 51)
	refuses(t, x, 50)
	tells(t, x, maxTime, api.Due{ID: 2, Time: 60})
	refuses(t, x, maxTime-1)
	refuses(t, x, maxTime+1)
	tells(t, x, maxTime)
}

func TestDueCountsWithNoneSet(t *testing.T) {
	x := New()
	tells(t, x, 100)
	refuses(t, x, 99)
	tells(t, x, 100)
	x.Set(1, 5)
	refuses(t, x, 99)
	tells(t, x, 100, api.Due{ID: 1, Time: 5})
}

func TestRefusedDueDoesNotCount(t *testing.T) {
	for _, bad := range []int{maxTime + 1, math.MaxInt, -1, math.MinInt, 49} {
		p := pairOf(t, several()...)
		p.due(50)
		refuses(t, p.table, bad)
		p.look()
		tells(t, p.table, 50)
		refuses(t, p.table, bad)
		p.due(70)
		refuses(t, p.table, 69)
		p.look()
	}
	x := New()
	refuses(t, x, maxTime+1)
	x.Set(1, 0)
	tells(t, x, 0, api.Due{ID: 1, Time: 0})
}

func TestOtherCallsDoNotMoveTheClock(t *testing.T) {
	x := New()
	x.Set(1, 1000)
	x.Set(2, maxTime)
	x.Stop(2)
	x.Next()
	x.All()
	tells(t, x, 0)
	x.Set(1, 500)
	tells(t, x, 1)
	x.Stop(1)
	tells(t, x, 1)
	refuses(t, x, 0)
}

func TestPastTimes(t *testing.T) {
	p := pairOf(t, api.Due{ID: 1, Time: 100})
	p.due(100)
	for _, time := range []int{99, 100, 0, 50, 101} {
		p.set(time+1, time)
	}
	p.look()
	if d, ok := p.table.Next(); d != (api.Due{ID: 1, Time: 0}) || !ok {
		t.Errorf("Next = %v, %v", d, ok)
	}
	tells(t, p.table, 100, api.Due{ID: 1, Time: 0}, api.Due{ID: 51, Time: 50}, api.Due{ID: 100, Time: 99}, api.Due{ID: 101, Time: 100})
	tells(t, p.table, 100)
	tells(t, p.table, maxTime, api.Due{ID: 102, Time: 101})
}

// all functions

// stir does one call that hangs on what is rolled alone, mostly with good arguments.
func (p *pair) stir(r *rand.Rand, ids, times int, now *int) {
	p.t.Helper()
	id := r.Intn(ids)
	switch r.Intn(24) {
	case 0:
		*now += r.Intn(times / 4)
		p.due(min(*now, maxTime))
	case 1:
		p.due(*now - r.Intn(3))
	case 2:
		p.due(maxTime + 1 + r.Intn(9))
	case 3:
		p.set(id+most*(1-2*r.Intn(2)), r.Intn(times))
	case 4:
		p.set(id, -1-r.Intn(9))
	case 5, 6, 7, 8, 9:
		p.stop(id)
	case 10:
		p.stop(-1 - id)
	case 11:
		p.get(id)
	default:
		p.set(id, max(0, *now+r.Intn(times)-times/4))
	}
}

func TestLongMixedRuns(t *testing.T) {
	for _, c := range []struct{ ids, times, steps int }{{1, 8, 2000}, {2, 8, 2000}, {3, 50, 4000}, {8, 8, 8000}, {20, 100, 8000}, {64, 16, 8000}, {300, 4000, 6000}, {most, 60, 4000}} {
		for seed := range int64(4) {
			r := rand.New(rand.NewSource(seed*100 + int64(c.ids)))
			p, now := pairOf(t), 0
			for i := range c.steps {
				p.stir(r, c.ids, c.times, &now)
				p.size()
				p.next()
				if c.ids < 100 {
					p.all()
				}
				if i%500 == 0 {
					p.look()
				}
			}
			p.look()
			p.due(maxTime)
			p.look()
		}
	}
}

// All sequences of a few calls on three timers, as what goes wrong in a small heap goes wrong in few steps.
func TestAllShortRuns(t *testing.T) {
	var calls []func(*pair)
	for id := range 3 {
		for _, time := range []int{1, 2} {
			calls = append(calls, func(p *pair) { p.set(id, time) })
		}
		calls = append(calls, func(p *pair) { p.stop(id) })
	}
	for now := range 3 {
		calls = append(calls, func(p *pair) { p.due(now) })
	}
	const length = 4
	runs := 1
	for range length {
		runs *= len(calls)
	}
	for run := range runs {
		p := pairOf(t)
		for rest, step := run, 0; step < length; step++ {
			calls[rest%len(calls)](p)
			rest /= len(calls)
			p.size()
			p.next()
		}
		p.all()
		for id := range 3 {
			p.get(id)
		}
	}
}

// P8.3

func TestEachOnce(t *testing.T) {
	for seed := range int64(20) {
		r := rand.New(rand.NewSource(seed))
		x, now := New(), 0
		pending := map[int]int{} // what was set, and neither stopped nor told
		for range 3000 {
			id := r.Intn(60)
			switch r.Intn(10) {
			case 0:
				now += r.Intn(30)
				told, e := x.Due(now)
				if e != api.OK {
					t.Fatalf("Due(%d) = %d", now, e)
				}
				for _, d := range told {
					if time, ok := pending[d.ID]; !ok || time != d.Time || time > now {
						t.Fatalf("Due(%d) tells %v, which was set: %v, to %d", now, d, ok, time)
					}
					delete(pending, d.ID)
				}
				for id, time := range pending {
					if time <= now {
						t.Fatalf("Due(%d) tells not of %d at %d", now, id, time)
					}
				}
			case 1, 2:
				was, _ := x.Stop(id)
				if _, ok := pending[id]; was != ok {
					t.Fatalf("Stop(%d) = %v", id, was)
				}
				delete(pending, id)
			default:
				time := max(0, now+r.Intn(100)-20)
				x.Set(id, time)
				pending[id] = time
			}
			if x.Len() != len(pending) {
				t.Fatalf("Len = %d, want %d", x.Len(), len(pending))
			}
		}
	}
}

func TestNotAheadOfItsTime(t *testing.T) {
	for _, time := range []int{1, 2, 1000, maxTime} {
		x := New()
		x.Set(7, time)
		for _, now := range []int{0, time / 2, time - 1} {
			tells(t, x, now)
		}
		tells(t, x, time, api.Due{ID: 7, Time: time})
		tells(t, x, time)
		tells(t, x, maxTime)
	}
}

func TestStoppedIsNotTold(t *testing.T) {
	x := New()
	for id := range 100 {
		x.Set(id, id%7)
	}
	for id := 0; id < 100; id += 3 {
		x.Stop(id)
	}
	told, e := x.Due(6)
	if e != api.OK || len(told) != 66 || slices.ContainsFunc(told, func(d api.Due) bool { return d.ID%3 == 0 }) {
		t.Errorf("Due(6) = %v, %d", told, e)
	}
}

// P8.4

func TestSteps(t *testing.T) {
	for seed := range int64(30) {
		r := rand.New(rand.NewSource(seed))
		once, steps := New(), New()
		for range 10 + r.Intn(300) {
			id, time := r.Intn(most), r.Intn(200)
			once.Set(id, time)
			steps.Set(id, time)
		}
		var told []api.Due
		for now := 0; now < 150; now += r.Intn(40) {
			some, e := steps.Due(now)
			if e != api.OK {
				t.Fatalf("Due(%d) = %d", now, e)
			}
			told = append(told, some...)
		}
		rest, _ := steps.Due(150)
		tells(t, once, 150, append(told, rest...)...)
		tellsAll(t, steps, once.All()...)
		refuses(t, once, 149)
		refuses(t, steps, 149)
	}
}

// Memory

func TestAnswersAreNewMemory(t *testing.T) {
	p := pairOf(t, several()...)
	spoil := func(list []api.Due) {
		list = list[:cap(list)]
		for i := range list {
			list[i] = api.Due{ID: 99, Time: -5}
		}
	}
	for range 3 {
		one, other := p.table.All(), p.table.All()
		spoil(one)
		if !slices.Equal(other, p.model.all()) {
			t.Error("two answers of All share memory")
		}
		spoil(other)
		p.look()
	}
	for now := 0; now < 100; now += 20 {
		all := p.table.All()
		wasAll := slices.Clone(all)
		told, _ := p.table.Due(now)
		wasTold := slices.Clone(told)
		p.model.due(now)
		p.set(1000+now, now+1)
		p.set(2000+now, now+30)
		p.stop(1000 + now)
		if !slices.Equal(all, wasAll) || !slices.Equal(told, wasTold) {
			t.Error("a later call changed a list that was told")
		}
		spoil(all)
		spoil(told)
		p.look()
	}
	p.due(maxTime)
	p.look()
}

func TestTablesKnowNothingOfEachOther(t *testing.T) {
	one, other := pairOf(t, several()...), pairOf(t)
	other.look()
	one.due(50)
	other.set(3, 5)
	other.due(10) // it has a clock of its own
	one.look()
	other.set(4095, 70)
	one.stop(0)
	other.look()
	one.due(maxTime)
	other.look()
	other.due(70)
	one.look()
}

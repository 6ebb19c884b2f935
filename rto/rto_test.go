package rto

import (
	"math"
	"math/rand"
	"testing"

	"ropewalk/api"
)

// usual are the chapter's bounds.
func usual() api.Timing { return api.Timing{Min: 1000, Init: 3000, Max: 60000} }

// wide are bounds that cut no timer of an estimate of short trips.
func wide() api.Timing { return api.Timing{Min: 1, Init: 1, Max: maxRtt} }

// goodBounds are bounds that may be, at the edges.
func goodBounds() []api.Timing {
	return []api.Timing{usual(), wide(), {Min: 1, Init: 1, Max: 1}, {Min: 1, Init: maxRtt, Max: maxRtt}, {Min: maxRtt, Init: maxRtt, Max: maxRtt}, {Min: 2, Init: 2, Max: 3}, {Min: 2, Init: 3, Max: 3}, {Min: 500, Init: 500, Max: 500}, {Min: 7, Init: 11, Max: 1001}}
}

// badBounds are such that each part of the rule is broken, alone or with others.
func badBounds() []api.Timing {
	return []api.Timing{
		{},
		{Min: 0, Init: 3000, Max: 60000},
		{Min: -1, Init: 3000, Max: 60000},
		{Min: math.MinInt, Init: 3000, Max: 60000},
		{Min: 3001, Init: 3000, Max: 60000},
		{Min: 60000, Init: 3000, Max: 60000},
		{Min: 1000, Init: 60001, Max: 60000},
		{Min: 1000, Init: math.MaxInt, Max: 60000},
		{Min: 1000, Init: 999, Max: 60000},
		{Min: 1000, Init: 0, Max: 60000},
		{Min: 1000, Init: math.MinInt, Max: 60000},
		{Min: 1000, Init: 3000, Max: maxRtt + 1},
		{Min: 1000, Init: 3000, Max: math.MaxInt},
		{Min: 1000, Init: 3000, Max: 2999},
		{Min: 1000, Init: 3000, Max: -1},
		{Min: maxRtt + 1, Init: maxRtt + 1, Max: maxRtt + 1},
		{Min: -3, Init: -2, Max: -1},
		{Min: 0, Init: 0, Max: 0},
		{Min: 3, Init: 2, Max: 1},
		{Min: math.MaxInt, Init: 0, Max: math.MinInt},
		{Min: math.MinInt, Init: math.MinInt, Max: math.MinInt},
		{Min: math.MaxInt, Init: math.MaxInt, Max: math.MaxInt},
	}
}

// means are what Smooth and Var are tried at, good and bad ones.
func means() []int {
	return []int{math.MinInt, -8 * maxRtt, -8, -1, 0, 1, 3, 4, 7, 8, 9, 8*maxRtt - 1, 8 * maxRtt, 8*maxRtt + 1, 1 << 32, math.MaxInt}
}

// goodMeans are those of them that may be.
func goodMeans() []int { return []int{0, 1, 2, 3, 4, 7, 8, 9, 1001, maxRtt, 8*maxRtt - 1, 8 * maxRtt} }

// timersOf are what Timer is tried at, good and bad ones.
func timersOf(b api.Timing) []int {
	return []int{math.MinInt, -b.Min, 0, b.Min - 1, b.Min, b.Init, b.Max, b.Max + 1, math.MaxInt}
}

// trips are what is measured, good and bad ones.
func trips() []int {
	return []int{math.MinInt, -maxRtt, -1, 0, 1, 2, 500, maxRtt - 1, maxRtt, maxRtt + 1, 1 << 32, math.MaxInt}
}

func goodTrip(n int) bool { return 0 <= n && n <= 1048576 }

// corners are states that may be with bounds, at their edges.
func corners(b api.Timing) []api.Rtt {
	var list []api.Rtt
	for _, timer := range []int{b.Min, b.Init, b.Max} {
		list = append(list, api.Rtt{Timer: timer})
		for _, smooth := range goodMeans() {
			for _, vary := range goodMeans() {
				list = append(list, api.Rtt{Known: true, Smooth: smooth, Var: vary, Timer: timer})
			}
		}
	}
	return list
}

// badStates may not be with the usual bounds, each for one cause.
func badStates() []api.Rtt {
	return []api.Rtt{
		{},
		{Known: true},
		{Timer: 999},
		{Timer: 60001},
		{Timer: -1},
		{Timer: math.MinInt},
		{Timer: math.MaxInt},
		{Smooth: 1, Timer: 3000},
		{Var: 1, Timer: 3000},
		{Smooth: 8, Var: 2, Timer: 3000},
		{Smooth: -1, Timer: 3000},
		{Var: -1, Timer: 3000},
		{Smooth: 1, Var: -1, Timer: 3000},
		{Known: true, Smooth: -1, Timer: 3000},
		{Known: true, Smooth: 8*maxRtt + 1, Timer: 3000},
		{Known: true, Smooth: math.MinInt, Timer: 3000},
		{Known: true, Smooth: math.MaxInt, Timer: 3000},
		{Known: true, Var: -1, Timer: 3000},
		{Known: true, Var: 8*maxRtt + 1, Timer: 3000},
		{Known: true, Var: math.MinInt, Timer: 3000},
		{Known: true, Var: math.MaxInt, Timer: 3000},
		{Known: true, Smooth: 4000, Var: 1000, Timer: 999},
		{Known: true, Smooth: 4000, Var: 1000, Timer: 60001},
	}
}

// tells holds a state that was told without an error against one.
func tells(t *testing.T, told api.Rtt, e api.Errno, want api.Rtt) {
	t.Helper()
	if told != want || e != 0 {
		t.Errorf("%+v, %d, want %+v", told, e, want)
	}
}

// refuses holds that an error is told, and the zero state.
func refuses(t *testing.T, told api.Rtt, e, want api.Errno) {
	t.Helper()
	if told != (api.Rtt{}) || e != want {
		t.Errorf("%+v, %d, want the zero state, %d", told, e, want)
	}
}

func TestNumbersOfErrorsAndLimits(t *testing.T) {
	if api.OK != 0 || api.ErrArg != 1 || api.ErrRange != 5 || api.ErrTiming != 100 || api.MaxRtt != maxRtt || maxRtt != 1<<20 {
		t.Error("another number")
	}
}

func TestExample(t *testing.T) {
	b := usual()
	r, e := Start(b)
	tells(t, r, e, api.Rtt{Timer: 3000})
	r, e = Measure(b, r, 500)
	tells(t, r, e, api.Rtt{Known: true, Smooth: 4000, Var: 1000, Timer: 1500})
	r, e = Measure(b, r, 580)
	tells(t, r, e, api.Rtt{Known: true, Smooth: 4080, Var: 830, Timer: 1340})
	r, e = Backoff(b, r)
	tells(t, r, e, api.Rtt{Known: true, Smooth: 4080, Var: 830, Timer: 2680})
	if n := Trip(r); n != 510 {
		t.Errorf("Trip = %d", n)
	}
}

// P10.1

func TestGoodBounds(t *testing.T) {
	for _, b := range goodBounds() {
		told, e := start(t, b)
		tells(t, told, e, api.Rtt{Timer: b.Init})
		for _, timer := range []int{b.Min, b.Init, b.Max} {
			if e := check(t, b, api.Rtt{Timer: timer}); e != 0 {
				t.Errorf("Check(%+v) with timer %d = %d", b, timer, e)
			}
		}
	}
}

func TestBadBounds(t *testing.T) {
	for _, b := range badBounds() {
		told, e := start(t, b)
		refuses(t, told, e, 100)
		for _, timer := range []int{b.Min, b.Init, b.Max, 3000} {
			if e := check(t, b, api.Rtt{Timer: timer}); e != 100 {
				t.Errorf("Check(%+v) with timer %d = %d", b, timer, e)
			}
		}
	}
}

func TestAllBoundsAtEdges(t *testing.T) {
	list := []int{math.MinInt, -maxRtt, -1, 0, 1, 2, 3, 1000, maxRtt - 1, maxRtt, maxRtt + 1, 1 << 32, 1<<32 + 1, math.MaxInt}
	for _, least := range list {
		for _, first := range list {
			for _, most := range list {
				b := api.Timing{Min: least, Init: first, Max: most}
				start(t, b)
				for _, timer := range []int{least, first, most, 0} {
					check(t, b, api.Rtt{Timer: timer})
					check(t, b, api.Rtt{Known: true, Smooth: 9, Var: 5, Timer: timer})
				}
			}
		}
	}
}

func TestStatesAtEdges(t *testing.T) {
	for _, b := range append(goodBounds(), badBounds()...) {
		for _, smooth := range means() {
			for _, vary := range means() {
				for _, timer := range timersOf(b) {
					check(t, b, api.Rtt{Smooth: smooth, Var: vary, Timer: timer})
					check(t, b, api.Rtt{Known: true, Smooth: smooth, Var: vary, Timer: timer})
				}
			}
		}
	}
}

func TestGoodStates(t *testing.T) {
	for _, b := range goodBounds() {
		for _, r := range corners(b) {
			if e := check(t, b, r); e != 0 {
				t.Errorf("Check(%+v, %+v) = %d", b, r, e)
			}
		}
	}
}

func TestBadStates(t *testing.T) {
	for _, r := range badStates() {
		if e := check(t, usual(), r); e != 1 {
			t.Errorf("Check of %+v = %d", r, e)
		}
	}
}

// A timer is held against the least and the greatest bound, not against the first one.
func TestTimerAtItsBounds(t *testing.T) {
	for _, b := range goodBounds() {
		for _, c := range []struct {
			timer int
			want  api.Errno
		}{{b.Min - 1, 1}, {b.Min, 0}, {b.Init, 0}, {b.Max, 0}, {b.Max + 1, 1}} {
			for _, r := range []api.Rtt{{Timer: c.timer}, {Known: true, Timer: c.timer}, {Known: true, Smooth: 8 * maxRtt, Var: 8 * maxRtt, Timer: c.timer}} {
				if e := check(t, b, r); e != c.want {
					t.Errorf("Check(%+v, %+v) = %d, want %d", b, r, e, c.want)
				}
			}
		}
	}
}

func TestBoundsAreToldAheadOfTheState(t *testing.T) {
	for _, b := range badBounds() {
		for _, r := range badStates() {
			if e := check(t, b, r); e != 100 {
				t.Errorf("Check(%+v, %+v) = %d", b, r, e)
			}
		}
	}
}

// P10.2

func TestMeasureRefusesBounds(t *testing.T) {
	for _, b := range badBounds() {
		for _, r := range append(badStates(), api.Rtt{Timer: b.Init}, api.Rtt{Timer: 3000}, api.Rtt{Known: true, Smooth: 4000, Var: 1000, Timer: 3000}) {
			for _, n := range trips() {
				told, e := measure(t, b, r, n)
				refuses(t, told, e, 100)
			}
		}
	}
}

func TestMeasureRefusesStates(t *testing.T) {
	for _, r := range badStates() {
		for _, n := range trips() {
			told, e := measure(t, usual(), r, n)
			refuses(t, told, e, 1)
		}
	}
}

func TestMeasureRefusesTrips(t *testing.T) {
	for _, b := range goodBounds() {
		for _, r := range corners(b) {
			for _, n := range trips() {
				told, e := measure(t, b, r, n)
				if goodTrip(n) && (e != 0 || !told.Known) {
					t.Errorf("Measure(%+v, %+v, %d) = %+v, %d", b, r, n, told, e)
				}
				if !goodTrip(n) {
					refuses(t, told, e, 5)
				}
			}
		}
	}
}

func TestFirstMeasure(t *testing.T) {
	for _, c := range []struct {
		n    int
		want api.Rtt
	}{
		{0, api.Rtt{Known: true, Timer: 1}},
		{1, api.Rtt{Known: true, Smooth: 8, Var: 2, Timer: 3}},
		{3, api.Rtt{Known: true, Smooth: 24, Var: 6, Timer: 9}},
		{500, api.Rtt{Known: true, Smooth: 4000, Var: 1000, Timer: 1500}},
		{349525, api.Rtt{Known: true, Smooth: 2796200, Var: 699050, Timer: 1048575}},
		{349526, api.Rtt{Known: true, Smooth: 2796208, Var: 699052, Timer: maxRtt}},
		{maxRtt, api.Rtt{Known: true, Smooth: 8 * maxRtt, Var: 2 * maxRtt, Timer: maxRtt}},
	} {
		for _, timer := range []int{1, 70, maxRtt} { // it plays no part
			told, e := measure(t, wide(), api.Rtt{Timer: timer}, c.n)
			tells(t, told, e, c.want)
		}
	}
}

func TestLaterMeasure(t *testing.T) {
	for _, c := range []struct {
		smooth, vary, n int
		want            api.Rtt
	}{
		{4000, 1000, 580, api.Rtt{Smooth: 4080, Var: 830, Timer: 1340}},
		{4000, 1000, 500, api.Rtt{Smooth: 4000, Var: 750, Timer: 1250}},
		{4000, 1000, 499, api.Rtt{Smooth: 3999, Var: 751, Timer: 1250}},
		{4000, 1000, 501, api.Rtt{Smooth: 4001, Var: 751, Timer: 1251}},
		{4080, 830, 0, api.Rtt{Smooth: 3570, Var: 1133, Timer: 1579}},
		{4007, 1003, 500, api.Rtt{Smooth: 4007, Var: 753, Timer: 1253}}, // 4007 / 8 is 500, 1003 / 4 is 250
		{4007, 1003, 501, api.Rtt{Smooth: 4008, Var: 754, Timer: 1255}},
		{4001, 1001, 499, api.Rtt{Smooth: 4000, Var: 752, Timer: 1252}},
		{4001, 1002, 498, api.Rtt{Smooth: 3999, Var: 754, Timer: 1253}},
		{7, 3, 0, api.Rtt{Smooth: 7, Var: 3, Timer: 3}},
		{7, 3, 1, api.Rtt{Smooth: 8, Var: 4, Timer: 5}},
		{8, 4, 1, api.Rtt{Smooth: 8, Var: 3, Timer: 4}},
		{9, 5, 0, api.Rtt{Smooth: 8, Var: 5, Timer: 6}},
		{0, 0, 0, api.Rtt{Smooth: 0, Var: 0, Timer: 1}},
		{0, 1, 0, api.Rtt{Smooth: 0, Var: 1, Timer: 1}},
		{0, 2, 0, api.Rtt{Smooth: 0, Var: 2, Timer: 2}},
		{4000, 0, 500, api.Rtt{Smooth: 4000, Var: 0, Timer: 501}}, // a Var of 0 counts as 1
		{4000, 1, 500, api.Rtt{Smooth: 4000, Var: 1, Timer: 501}},
		{4007, 0, 500, api.Rtt{Smooth: 4007, Var: 0, Timer: 501}},
		{4000, 0, 501, api.Rtt{Smooth: 4001, Var: 1, Timer: 501}},
		{4000, 0, 499, api.Rtt{Smooth: 3999, Var: 1, Timer: 500}},
		{0, 0, maxRtt, api.Rtt{Smooth: maxRtt, Var: maxRtt, Timer: maxRtt}},
		{8 * maxRtt, 0, 0, api.Rtt{Smooth: 7 * maxRtt, Var: maxRtt, Timer: maxRtt}},
		{8 * maxRtt, 8 * maxRtt, 0, api.Rtt{Smooth: 7 * maxRtt, Var: 7 * maxRtt, Timer: maxRtt}},
		{8 * maxRtt, 8 * maxRtt, maxRtt, api.Rtt{Smooth: 8 * maxRtt, Var: 6 * maxRtt, Timer: maxRtt}},
		{0, 8 * maxRtt, maxRtt, api.Rtt{Smooth: maxRtt, Var: 7 * maxRtt, Timer: maxRtt}},
		{8*maxRtt - 1, 8*maxRtt - 1, maxRtt, api.Rtt{Smooth: 8 * maxRtt, Var: 6*maxRtt + 1, Timer: maxRtt}},
	} {
		c.want.Known = true
		for _, timer := range []int{1, 70, maxRtt} { // it plays no part
			told, e := measure(t, wide(), api.Rtt{Known: true, Smooth: c.smooth, Var: c.vary, Timer: timer}, c.n)
			tells(t, told, e, c.want)
		}
	}
}

// All states of short trips: wherever a quotient is cut.
func TestMeasureOfAllSmallStates(t *testing.T) {
	for smooth := range 34 {
		for vary := range 18 {
			for n := range 8 {
				measure(t, wide(), api.Rtt{Known: true, Smooth: smooth, Var: vary, Timer: 5}, n)
				measure(t, api.Timing{Min: 3, Init: 4, Max: 6}, api.Rtt{Known: true, Smooth: smooth, Var: vary, Timer: 5}, n)
			}
		}
	}
}

func TestMeasureKeepsTheTimerWithinBounds(t *testing.T) {
	known := api.Rtt{Known: true, Smooth: 4000, Var: 1000, Timer: 1200}
	for _, c := range []struct {
		least, most, want int // the estimate's timer is 1250
	}{{1, maxRtt, 1250}, {1250, 1250, 1250}, {1249, 1251, 1250}, {1, 1249, 1249}, {1, 1250, 1250}, {1, 1251, 1250}, {1249, maxRtt, 1250}, {1250, maxRtt, 1250}, {1251, maxRtt, 1251}, {1200, 1200, 1200}, {1300, 1300, 1300}, {maxRtt, maxRtt, maxRtt}, {1, 1, 1}} {
		for _, first := range []int{c.least, c.most} { // Init plays no part
			b := api.Timing{Min: c.least, Init: first, Max: c.most}
			known.Timer = first
			told, e := measure(t, b, known, 500)
			tells(t, told, e, api.Rtt{Known: true, Smooth: 4000, Var: 750, Timer: c.want})
		}
	}
	for _, c := range []struct{ n, want int }{{0, 1000}, {1, 1000}, {333, 1000}, {334, 1002}, {20000, 60000}, {20001, 60000}, {19999, 59997}, {maxRtt, 60000}} {
		told, e := measure(t, usual(), api.Rtt{Timer: 3000}, c.n)
		tells(t, told, e, api.Rtt{Known: true, Smooth: 8 * c.n, Var: 2 * c.n, Timer: c.want})
	}
}

// P10.3

func TestBackoffRefuses(t *testing.T) {
	for _, b := range badBounds() {
		for _, r := range append(badStates(), api.Rtt{Timer: b.Init}, api.Rtt{Timer: 3000}, api.Rtt{Known: true, Smooth: 4000, Var: 1000, Timer: 3000}) {
			told, e := backoff(t, b, r)
			refuses(t, told, e, 100)
		}
	}
	for _, r := range badStates() {
		told, e := backoff(t, usual(), r)
		refuses(t, told, e, 1)
	}
}

func TestBackoffDoubles(t *testing.T) {
	for _, c := range []struct{ least, most, timer, want int }{
		{1000, 60000, 1000, 2000},
		{1000, 60000, 29999, 59998},
		{1000, 60000, 30000, 60000},
		{1000, 60000, 30001, 60000},
		{1000, 60000, 59999, 60000},
		{1000, 60000, 60000, 60000},
		{1000, 60001, 30000, 60000},
		{1000, 60001, 30001, 60001},
		{500, 500, 500, 500},
		{1, 1, 1, 1},
		{1, 2, 1, 2},
		{1, 2, 2, 2},
		{2, 3, 2, 3},
		{1, maxRtt, 1, 2},
		{1, maxRtt, maxRtt/2 - 1, maxRtt - 2},
		{1, maxRtt, maxRtt / 2, maxRtt},
		{1, maxRtt, maxRtt/2 + 1, maxRtt},
		{1, maxRtt, maxRtt, maxRtt},
		{maxRtt, maxRtt, maxRtt, maxRtt},
	} {
		for _, first := range []int{c.least, c.most} { // Init plays no part
			b := api.Timing{Min: c.least, Init: first, Max: c.most}
			for _, r := range []api.Rtt{{}, {Known: true}, {Known: true, Smooth: 4003, Var: 1001}, {Known: true, Smooth: 8 * maxRtt, Var: 8 * maxRtt}} {
				r.Timer = c.timer
				told, e := backoff(t, b, r)
				r.Timer = c.want // and nothing else
				tells(t, told, e, r)
			}
		}
	}
}

func TestTrip(t *testing.T) {
	for _, c := range []struct{ smooth, want int }{
		{0, 0}, {1, 0}, {7, 0}, {8, 1}, {9, 1}, {15, 1}, {16, 2}, {4080, 510}, {3570, 446}, {8*maxRtt - 1, maxRtt - 1}, {8 * maxRtt, maxRtt}, {8*maxRtt + 8, maxRtt + 1},
		{-1, 0}, {-7, 0}, {-8, 0}, {-9, 0}, {-16, 0}, {-8 * maxRtt, 0}, {math.MinInt, 0}, {math.MinInt + 1, 0}, {math.MaxInt, math.MaxInt >> 3},
	} {
		for _, r := range []api.Rtt{{}, {Known: true}, {Var: 900, Timer: 80}, {Known: true, Var: -5, Timer: math.MinInt}} { // they play no part
			r.Smooth = c.smooth
			if n := trip(t, r); n != c.want {
				t.Errorf("Trip(%+v) = %d, want %d", r, n, c.want)
			}
		}
	}
}

// P10.4

func TestWhatIsToldMayBe(t *testing.T) {
	for _, b := range goodBounds() {
		for _, r := range corners(b) {
			told, _ := backoff(t, b, r)
			if e := Check(b, told); e != 0 {
				t.Errorf("Backoff(%+v, %+v) = %+v, which may not be: %d", b, r, told, e)
			}
			for _, n := range trips() {
				if !goodTrip(n) {
					continue
				}
				told, _ := measure(t, b, r, n)
				if e := Check(b, told); e != 0 || !told.Known {
					t.Errorf("Measure(%+v, %+v, %d) = %+v, which may not be: %d", b, r, n, told, e)
				}
			}
		}
	}
}

// step goes on by one call, mostly one that is not refused; what is told behind an error is not taken.
func step(t *testing.T, roll *rand.Rand, b api.Timing, r api.Rtt) api.Rtt {
	t.Helper()
	told, e := r, api.OK
	switch roll.Intn(12) {
	case 0, 1, 2:
		told, e = backoff(t, b, r)
	case 3:
		told, e = measure(t, b, r, maxRtt*roll.Intn(2))
	case 4:
		_, e = measure(t, b, r, maxRtt+1+roll.Intn(9))
	case 5:
		_, e = measure(t, b, r, -1-roll.Intn(9))
	default:
		told, e = measure(t, b, r, roll.Intn(1<<roll.Intn(21)+1))
	}
	if e != 0 {
		return r
	}
	return told
}

func TestLongMixedRuns(t *testing.T) {
	for seed := range int64(60) {
		roll := rand.New(rand.NewSource(seed))
		b := someBounds(roll)
		r, e := start(t, b)
		if seed%2 == 1 {
			r = someState(roll, b)
		}
		for range 1500 {
			r = step(t, roll, b, r)
			if e = check(t, b, r); e != 0 {
				t.Fatalf("bounds %+v: a state that may not be was told: %+v, %d", b, r, e)
			}
			trip(t, r)
		}
	}
}

// P10.5

// again measures the same trip so many times.
func again(t *testing.T, b api.Timing, r api.Rtt, n, times int) api.Rtt {
	t.Helper()
	for range times {
		told, e := Measure(b, r, n)
		if e != 0 {
			t.Fatalf("Measure(%+v, %+v, %d) = %d", b, r, n, e)
		}
		r = told
	}
	return r
}

// settled holds a state behind 400 measurements of n against what follows of it.
func settled(t *testing.T, b api.Timing, r api.Rtt, n int) {
	t.Helper()
	low, high := min(max(n, b.Min), b.Max), min(max(n+4, b.Min), b.Max)
	if Trip(r) != n || r.Timer < low || r.Timer > high {
		t.Fatalf("bounds %+v: %d again and again comes to %+v, a trip of %d; the timer is from %d to %d", b, n, r, Trip(r), low, high)
	}
}

func TestItSettlesFromCorners(t *testing.T) {
	for _, b := range goodBounds() {
		for _, r := range corners(b) {
			for _, n := range []int{0, 1, 2, 7, 999, 1000, 60000, maxRtt - 1, maxRtt} {
				settled(t, b, again(t, b, r, n, 400), n)
			}
		}
	}
}

func TestItSettlesFromAnywhere(t *testing.T) {
	roll := rand.New(rand.NewSource(10))
	for range 4000 {
		b := someBounds(roll)
		n := roll.Intn(1<<roll.Intn(21) + 1)
		settled(t, b, again(t, b, someState(roll, b), n, 400), n)
	}
}

func TestItSettlesAndStays(t *testing.T) {
	for _, n := range []int{0, 1, 250, maxRtt} {
		r := again(t, wide(), api.Rtt{Known: true, Smooth: 8 * maxRtt, Var: 8 * maxRtt, Timer: 9}, n, 400)
		for range 200 {
			settled(t, wide(), r, n)
			r = again(t, wide(), r, n, 1)
		}
	}
}

// P10.6

func TestItDoubles(t *testing.T) {
	for _, b := range goodBounds() {
		for _, first := range corners(b) {
			r := first
			for k := 0; k <= 25; k++ {
				want := first
				want.Timer = min(first.Timer<<k, b.Max)
				if r != want {
					t.Fatalf("bounds %+v: behind %d backoffs of %+v: %+v", b, k, first, r)
				}
				var e api.Errno
				if r, e = Backoff(b, r); e != 0 {
					t.Fatalf("Backoff(%+v, %+v) = %d", b, want, e)
				}
			}
		}
	}
}

func TestMeasureBehindBackoffs(t *testing.T) {
	roll := rand.New(rand.NewSource(20))
	for range 2000 {
		b := someBounds(roll)
		first := someState(roll, b)
		n := roll.Intn(1<<roll.Intn(21) + 1)
		want, _ := measure(t, b, first, n)
		for r, k := first, 0; k <= 25; k++ {
			told, e := Measure(b, r, n)
			tells(t, told, e, want)
			r, _ = Backoff(b, r)
		}
	}
	b := usual()
	r, _ := Measure(b, api.Rtt{Timer: 3000}, 500)
	for range 3 {
		r, _ = Backoff(b, r)
	}
	if r.Timer != 12000 {
		t.Errorf("Timer is %d behind three backoffs of 1500", r.Timer)
	}
	r, e := Measure(b, r, 500)
	tells(t, r, e, api.Rtt{Known: true, Smooth: 4000, Var: 750, Timer: 1250})
}

// Memory

func TestWhatIsHandedInStays(t *testing.T) {
	for _, b := range []api.Timing{usual(), {Min: 2, Init: 1, Max: 3}} {
		for _, r := range []api.Rtt{{Timer: 3000}, {Known: true, Smooth: 4000, Var: 1000, Timer: 1500}, {Timer: 999}} {
			wasB, was := b, r
			Check(b, r)
			Start(b)
			for _, n := range trips() {
				Measure(b, r, n)
			}
			Backoff(b, r)
			Trip(r)
			if b != wasB || r != was {
				t.Errorf("%+v, %+v became %+v, %+v", wasB, was, b, r)
			}
		}
	}
}

// What a call tells hangs on its arguments alone, not on the calls ahead of it.
func TestNothingIsKept(t *testing.T) {
	known := api.Rtt{Known: true, Smooth: 4000, Var: 1000, Timer: 1500}
	for range 3 {
		told, e := Measure(usual(), known, 580)
		tells(t, told, e, api.Rtt{Known: true, Smooth: 4080, Var: 830, Timer: 1340})
		Measure(wide(), api.Rtt{Timer: 5}, maxRtt)
		Backoff(usual(), api.Rtt{Timer: 60000})
		Measure(usual(), known, -1)
		told, e = Start(usual())
		tells(t, told, e, api.Rtt{Timer: 3000})
		Start(api.Timing{})
		told, e = Backoff(usual(), known)
		tells(t, told, e, api.Rtt{Known: true, Smooth: 4000, Var: 1000, Timer: 3000})
	}
}

package sched

import (
	"math"
	"math/rand"
	"slices"
	"testing"

	"ropewalk/api"
)

// tells holds a list that was told without an error against one.
func tells(t *testing.T, list []int, e api.Errno, want ...int) {
	t.Helper()
	if !slices.Equal(list, want) || e != 0 {
		t.Errorf("%v, %d, want %v", list, e, want)
	}
}

// is holds a path that was told without an error against one.
func is(t *testing.T, path int, e api.Errno, want int) {
	t.Helper()
	if path != want || e != 0 {
		t.Errorf("%d, %d, want %d", path, e, want)
	}
}

// refuses: all four calls tell this error, whatever else they are handed.
func refuses(t *testing.T, views []api.View, want api.Errno) {
	t.Helper()
	if e := check(t, views); e != want {
		t.Fatalf("Check(%+v) = %d, want %d", views, e, want)
	}
	for _, kind := range append(kinds(), badKinds()...) {
		for _, last := range lasts(len(views)) {
			list, e := order(t, kind, last, views)
			path, ok, nextE := next(t, kind, last, views)
			if len(list) > 0 || e != want || path != 0 || ok || nextE != want {
				t.Fatalf("Order = %v, %d, Next = %d, %v, %d, want %d of %+v", list, e, path, ok, nextE, want, views)
			}
		}
	}
	for _, from := range lasts(len(views)) {
		if path, e := again(t, from, views); path != 0 || e != want {
			t.Fatalf("Again(%d) = %d, %d, want %d of %+v", from, path, e, want, views)
		}
	}
}

// takes: all four calls take these views.
func takes(t *testing.T, views []api.View) {
	t.Helper()
	if e := check(t, views); e != 0 {
		t.Fatalf("Check(%+v) = %d", views, e)
	}
	for _, kind := range kinds() {
		for _, last := range lasts(len(views)) {
			_, e := order(t, kind, last, views)
			_, _, nextE := next(t, kind, last, views)
			if e != 0 || nextE != 0 {
				t.Fatalf("Order: %d, Next: %d of %+v", e, nextE, views)
			}
		}
	}
	for from := range views {
		if _, e := again(t, from, views); e != 0 {
			t.Fatalf("Again(%d): %d of %+v", from, e, views)
		}
	}
}

// row is views of these states, which differ in nothing else.
func row(states ...api.PathState) []api.View {
	var views []api.View
	for _, state := range states {
		views = append(views, api.View{State: state, Space: 10, Trip: 5, Share: true})
	}
	return views
}

func TestNumbersOfErrorsAndLimits(t *testing.T) {
	if api.OK != 0 || api.ErrArg != 1 || api.ErrMany != 3 || api.ErrRange != 5 {
		t.Error("another number of an error")
	}
	if api.MaxPaths != maxPaths || api.MaxWindow != maxWindow || maxWindow != 1<<30 || api.MaxRtt != maxRtt || maxRtt != 1<<20 {
		t.Error("another limit")
	}
	if api.Active != active || api.Failing != failing || api.Inactive != inactive {
		t.Error("another number of a state")
	}
	if api.SchedRound != round || api.SchedTrip != byTrip || api.SchedSpace != bySpace || api.MostSched != bySpace {
		t.Error("another number of a kind")
	}
}

func TestExample(t *testing.T) {
	views := row(active, active, active)
	views[0].Space, views[1].Space, views[2].Space = 10, 0, 20
	path, ok, e := next(t, round, 0, views)
	if is(t, path, e, 2); !ok {
		t.Error("none")
	}
	path, ok, e = next(t, round, 2, views)
	if is(t, path, e, 0); !ok {
		t.Error("none")
	}
	path, ok, e = next(t, bySpace, 2, views)
	if is(t, path, e, 2); !ok {
		t.Error("none")
	}
	path, e = again(t, 2, views)
	is(t, path, e, 0)
	views[1].State = failing
	path, e = again(t, 0, views)
	is(t, path, e, 2)
}

// Check, and its numbers of all others.

func TestHowManyViews(t *testing.T) {
	refuses(t, nil, 3)
	refuses(t, []api.View{}, 3)
	if e := Check(); e != 3 {
		t.Errorf("Check() = %d", e)
	}
	if list, e := Order(round, 0); len(list) > 0 || e != 3 {
		t.Errorf("Order() = %v, %d", list, e)
	}
	if path, ok, e := Next(round, 0); path != 0 || ok || e != 3 {
		t.Errorf("Next() = %d, %v, %d", path, ok, e)
	}
	if path, e := Again(0); path != 0 || e != 3 {
		t.Errorf("Again() = %d, %d", path, e)
	}
	for count := 1; count <= 8; count++ {
		takes(t, slices.Repeat(row(active), count))
		takes(t, slices.Repeat(row(failing), count))
		takes(t, slices.Repeat(row(inactive), count))
	}
	for _, count := range []int{9, 10, 16, 1000} {
		refuses(t, slices.Repeat(row(active), count), 3)
	}
	refuses(t, slices.Repeat(row(active), 70000), 3)
}

// badViews may not be: for one field, and for several.
func badViews() []api.View {
	var list []api.View
	good := row(active)[0]
	for _, state := range []api.PathState{math.MinInt, -1 << 32, -1, 0, 4, 1 << 32, 1<<32 + 1, math.MaxInt} {
		v := good
		v.State = state
		list = append(list, v)
	}
	for _, n := range []int{math.MinInt, -maxWindow, -1, 1<<30 + 1, 1 << 32, 1<<32 + 1, math.MaxInt} {
		v := good
		v.Space = n
		list = append(list, v)
	}
	for _, n := range []int{math.MinInt, -maxRtt, -1, 1<<20 + 1, 1 << 32, 1<<32 + 1, math.MaxInt} {
		v := good
		v.Trip = n
		list = append(list, v)
	}
	return append(list, api.View{}, api.View{Share: true}, api.View{Space: -1, Trip: -1}, api.View{State: 4, Space: math.MaxInt, Trip: math.MinInt})
}

func TestViewsThatMayNotBe(t *testing.T) {
	for _, bad := range badViews() {
		for _, share := range []bool{true, false} {
			bad.Share = share
			refuses(t, []api.View{bad}, 1)
			for _, count := range []int{2, 3, 8} {
				for at := range count {
					for _, state := range allStates() {
						views := slices.Repeat(row(state), count)
						views[at] = bad
						refuses(t, views, 1)
					}
				}
				refuses(t, slices.Repeat([]api.View{bad}, count), 1)
			}
		}
	}
}

func TestManyAheadOfWrong(t *testing.T) {
	for _, bad := range badViews() {
		for at := range 9 {
			views := slices.Repeat(row(active), 9)
			views[at] = bad
			refuses(t, views, 3)
			refuses(t, slices.Repeat([]api.View{bad}, 9+at), 3)
		}
	}
}

func TestViewsAtTheirEdges(t *testing.T) {
	for _, state := range allStates() {
		for _, space := range []int{0, 1, maxWindow - 1, maxWindow} {
			for _, trip := range []int{0, 1, maxRtt - 1, maxRtt} {
				for _, share := range []bool{true, false} {
					v := api.View{State: state, Space: space, Trip: trip, Share: share}
					takes(t, []api.View{v})
					takes(t, append(row(active, failing, inactive), v))
					takes(t, slices.Repeat([]api.View{v}, 8))
				}
			}
		}
	}
}

// P18.1

func TestKinds(t *testing.T) {
	for _, state := range allStates() {
		for _, share := range []bool{true, false} { // also where there is none to tell
			views := row(state, state)
			views[0].Share, views[1].Share = share, share
			for _, last := range lasts(2) {
				for _, kind := range badKinds() {
					list, e := order(t, kind, last, views)
					path, ok, nextE := next(t, kind, last, views)
					if len(list) > 0 || e != 5 || path != 0 || ok || nextE != 5 {
						t.Errorf("kind %d: %v, %d; %d, %v, %d", kind, list, e, path, ok, nextE)
					}
				}
				for _, kind := range kinds() {
					_, e := order(t, kind, last, views)
					_, ok, nextE := next(t, kind, last, views)
					if e != 0 || nextE != 0 || ok != share {
						t.Errorf("kind %d: %d, %v, %d", kind, e, ok, nextE)
					}
				}
			}
		}
	}
}

func TestRound(t *testing.T) {
	for _, state := range allStates() {
		views := row(state, state, state, state)
		for _, c := range []struct {
			last int
			want []int
		}{
			{math.MinInt, []int{0, 1, 2, 3}}, {-1 << 32, []int{0, 1, 2, 3}}, {-2, []int{0, 1, 2, 3}}, {-1, []int{0, 1, 2, 3}},
			{0, []int{1, 2, 3, 0}}, {1, []int{2, 3, 0, 1}}, {2, []int{3, 0, 1, 2}}, {3, []int{0, 1, 2, 3}},
			{4, []int{0, 1, 2, 3}}, {5, []int{0, 1, 2, 3}}, {6, []int{0, 1, 2, 3}}, {8, []int{0, 1, 2, 3}}, {1<<32 + 1, []int{0, 1, 2, 3}},
			{math.MaxInt - 1, []int{0, 1, 2, 3}}, {math.MaxInt, []int{0, 1, 2, 3}},
		} {
			list, e := order(t, round, c.last, views)
			tells(t, list, e, c.want...)
			path, ok, e := next(t, round, c.last, views)
			if is(t, path, e, c.want[0]); !ok {
				t.Error("none")
			}
			for _, kind := range []int{byTrip, bySpace} { // alike ones by their numbers, whichever was last
				list, e = order(t, kind, c.last, views)
				tells(t, list, e, 0, 1, 2, 3)
			}
		}
	}
}

func TestRoundBehindOneThatIsNotFit(t *testing.T) {
	views := row(active, failing, active, active, inactive, active)
	views[2].Space = 0
	views[3].Share = false
	for last, want := range [][]int{{5, 0}, {5, 0}, {5, 0}, {5, 0}, {5, 0}, {0, 5}} {
		list, e := order(t, round, last, views)
		tells(t, list, e, want...)
	}
	views[2].Space = 1
	for last, want := range [][]int{{2, 5, 0}, {2, 5, 0}, {5, 0, 2}, {5, 0, 2}, {5, 0, 2}, {0, 2, 5}} {
		list, e := order(t, round, last, views)
		tells(t, list, e, want...)
	}
}

func TestTrips(t *testing.T) {
	for _, c := range []struct{ trips, want []int }{
		{[]int{3, 1, 2}, []int{1, 2, 0}},
		{[]int{1, 2, 3}, []int{0, 1, 2}},
		{[]int{3, 2, 1}, []int{2, 1, 0}},
		{[]int{5, 5, 5}, []int{0, 1, 2}},
		{[]int{5, 4, 5}, []int{1, 0, 2}},
		{[]int{4, 5, 4}, []int{0, 2, 1}},
		{[]int{0, maxRtt, 0}, []int{0, 2, 1}},
		{[]int{maxRtt, maxRtt - 1, maxRtt}, []int{1, 0, 2}},
		{[]int{9, 7, 8, 7, 9, 0, 8, 7}, []int{5, 1, 3, 7, 2, 6, 0, 4}},
		{[]int{7}, []int{0}},
	} {
		for _, state := range allStates() {
			views := slices.Repeat(row(state), len(c.trips))
			for i := range views { // the path of the longest trip has the most space
				views[i].Trip, views[i].Space = c.trips[i], 1+c.trips[i]
			}
			for _, last := range lasts(len(views)) {
				list, e := order(t, byTrip, last, views)
				tells(t, list, e, c.want...)
			}
		}
	}
}

func TestSpaces(t *testing.T) {
	for _, c := range []struct{ spaces, want []int }{
		{[]int{3, 1, 2}, []int{0, 2, 1}},
		{[]int{1, 2, 3}, []int{2, 1, 0}},
		{[]int{3, 2, 1}, []int{0, 1, 2}},
		{[]int{5, 5, 5}, []int{0, 1, 2}},
		{[]int{5, 4, 5}, []int{0, 2, 1}},
		{[]int{4, 5, 4}, []int{1, 0, 2}},
		{[]int{0, 5, 0}, []int{1}},
		{[]int{1, maxWindow, 0, maxWindow}, []int{1, 3, 0}},
		{[]int{maxWindow, maxWindow - 1, maxWindow}, []int{0, 2, 1}},
		{[]int{9, 7, 8, 7, 9, 0, 8, 7}, []int{0, 4, 2, 6, 1, 3, 7}},
		{[]int{7}, []int{0}},
	} {
		for _, state := range allStates() {
			views := slices.Repeat(row(state), len(c.spaces))
			for i := range views { // the path of the most space has the longest trip
				views[i].Space, views[i].Trip = c.spaces[i], c.spaces[i]/1024
			}
			for _, last := range lasts(len(views)) {
				list, e := order(t, bySpace, last, views)
				tells(t, list, e, c.want...)
			}
		}
	}
}

// A class without fit paths lets no other class in.
func TestClasses(t *testing.T) {
	for _, c := range []struct {
		states []api.PathState
		want   []int
	}{
		{[]api.PathState{active, active, active}, []int{0, 1, 2}},
		{[]api.PathState{active, failing, inactive}, []int{0}},
		{[]api.PathState{inactive, failing, active, active}, []int{2, 3}},
		{[]api.PathState{failing, failing, active}, []int{2}},
		{[]api.PathState{inactive, active}, []int{1}},
		{[]api.PathState{failing, failing}, []int{0, 1}},
		{[]api.PathState{inactive, failing, inactive, failing}, []int{1, 3}},
		{[]api.PathState{failing, inactive}, []int{0}},
		{[]api.PathState{inactive, inactive, inactive}, []int{0, 1, 2}},
		{[]api.PathState{inactive}, []int{0}},
		{[]api.PathState{inactive, inactive, active, failing, active, failing, inactive, active}, []int{2, 4, 7}},
	} {
		for _, kind := range kinds() {
			views := row(c.states...)
			list, e := order(t, kind, -1, views)
			tells(t, list, e, c.want...)
			for _, spoil := range []func(v *api.View, i int){
				func(v *api.View, _ int) { v.Space = 0 },
				func(v *api.View, _ int) { v.Share = false },
				func(v *api.View, _ int) { v.Space, v.Share = 0, false },
				func(v *api.View, i int) { v.Space, v.Share = 10*(i%2), i%2 == 0 },
			} {
				none := slices.Clone(views)
				for _, path := range c.want {
					spoil(&none[path], path)
				}
				list, e = order(t, kind, -1, none)
				tells(t, list, e)
				path, ok, e := next(t, kind, -1, none)
				if is(t, path, e, 0); ok {
					t.Errorf("path %d of %+v", path, none)
				}
				for at, path := range c.want { // all but one
					some := slices.Clone(views)
					spoil(&some[path], path)
					list, e = order(t, kind, -1, some)
					tells(t, list, e, slices.Delete(slices.Clone(c.want), at, at+1)...)
					one := slices.Clone(none)
					one[path] = views[path]
					list, e = order(t, kind, -1, one)
					tells(t, list, e, path)
				}
			}
		}
	}
}

func TestNextIsTheFirstOfOrder(t *testing.T) {
	r := rand.New(rand.NewSource(181))
	found, empty := 0, 0
	for range 30000 {
		views := someViews(r)
		kind, last := pick(r, kinds()...), pick(r, lasts(len(views))...)
		list, e := order(t, kind, last, views)
		path, ok, nextE := next(t, kind, last, views)
		switch {
		case e != 0 || nextE != 0:
			t.Fatalf("%d, %d of %+v", e, nextE, views)
		case len(list) == 0 && (ok || path != 0), len(list) > 0 && (!ok || path != list[0]):
			t.Fatalf("Order = %v, Next = %d, %v of %+v", list, path, ok, views)
		case ok:
			found++
		default:
			empty++
		}
	}
	if found < 1000 || empty < 1000 {
		t.Errorf("%d with a path, %d without one", found, empty)
	}
}

// P18.2

func TestAgainOfNoPath(t *testing.T) {
	for count := 1; count <= 8; count++ {
		for _, state := range allStates() {
			for _, from := range []int{math.MinInt, -1 << 32, -8, -1, count, count + 1, 8, 9, 1 << 32, 1<<32 + 1, math.MaxInt} {
				path, e := again(t, from, slices.Repeat(row(state), count))
				if path != 0 || e != 5 {
					t.Errorf("Again(%d) of %d = %d, %d", from, count, path, e)
				}
			}
		}
	}
}

func TestAgain(t *testing.T) {
	for _, c := range []struct {
		from   int
		states []api.PathState
		want   int
	}{
		{0, []api.PathState{active}, 0}, {0, []api.PathState{failing}, 0}, {0, []api.PathState{inactive}, 0},
		{0, []api.PathState{active, active}, 1}, {1, []api.PathState{active, active}, 0},
		{0, []api.PathState{active, failing}, 0}, {1, []api.PathState{active, failing}, 0},
		{0, []api.PathState{active, inactive}, 0}, {1, []api.PathState{active, inactive}, 0},
		{0, []api.PathState{failing, failing}, 1}, {1, []api.PathState{failing, failing}, 0},
		{0, []api.PathState{failing, inactive}, 0}, {1, []api.PathState{failing, inactive}, 0},
		{0, []api.PathState{inactive, inactive}, 1}, {1, []api.PathState{inactive, inactive}, 0},
		{0, []api.PathState{active, failing, inactive}, 0}, {1, []api.PathState{active, failing, inactive}, 0}, {2, []api.PathState{active, failing, inactive}, 0},
		{0, []api.PathState{inactive, failing, active}, 2}, {1, []api.PathState{inactive, failing, active}, 2}, {2, []api.PathState{inactive, failing, active}, 2},
		{0, []api.PathState{active, inactive, active}, 2}, {1, []api.PathState{active, inactive, active}, 0}, {2, []api.PathState{active, inactive, active}, 0},
		{0, []api.PathState{failing, inactive, failing}, 2}, {1, []api.PathState{failing, inactive, failing}, 0},
		{0, []api.PathState{failing, active, failing}, 1}, {1, []api.PathState{failing, active, failing}, 1},
		{0, []api.PathState{inactive, inactive, failing}, 2}, {2, []api.PathState{inactive, inactive, failing}, 2},
		{0, []api.PathState{inactive, inactive, inactive}, 1}, {1, []api.PathState{inactive, inactive, inactive}, 0}, {2, []api.PathState{inactive, inactive, inactive}, 0},
	} {
		views := row(c.states...)
		path, e := again(t, c.from, views)
		is(t, path, e, c.want)
		for i := range views { // neither is asked for
			views[i].Space, views[i].Share = 0, false
		}
		path, e = again(t, c.from, views)
		is(t, path, e, c.want)
		views[c.from].Space, views[c.from].Share = maxWindow, true // nor does a path's own space keep a chunk on it
		path, e = again(t, c.from, views)
		is(t, path, e, c.want)
	}
}

func TestAgainBySpace(t *testing.T) {
	for _, state := range allStates() {
		for _, c := range []struct{ spaces, want []int }{
			{[]int{10, 0, 20}, []int{2, 2, 0}},
			{[]int{0, 0, 0}, []int{1, 0, 0}},
			{[]int{7, 7, 7}, []int{1, 0, 0}},
			{[]int{7, 8, 8}, []int{1, 2, 1}},
			{[]int{8, 8, 7}, []int{1, 0, 0}},
			{[]int{8, 7, 8}, []int{2, 0, 0}},
			{[]int{1, 2, 3, 4}, []int{3, 3, 3, 2}},
			{[]int{4, 3, 2, 1}, []int{1, 0, 0, 0}},
			{[]int{maxWindow, maxWindow - 1, maxWindow}, []int{2, 0, 0}},
			{[]int{0, maxWindow}, []int{1, 0}},
			{[]int{0, 1, 1, 0, 9, 9, 2, 9}, []int{4, 4, 4, 4, 5, 4, 4, 4}},
		} {
			views := slices.Repeat(row(state), len(c.spaces))
			for i := range views {
				views[i].Space, views[i].Trip, views[i].Share = c.spaces[i], c.spaces[i]/1024, c.spaces[i]%2 == 0
			}
			for from, want := range c.want {
				path, e := again(t, from, views)
				is(t, path, e, want)
				for _, worse := range allStates() { // paths of worse states play no part, with however much space
					if worse <= state {
						continue
					}
					wide := append(slices.Clone(views), api.View{State: worse, Space: maxWindow, Share: true})
					if len(wide) > maxPaths {
						continue
					}
					path, e = again(t, from, wide)
					is(t, path, e, want)
				}
			}
		}
	}
}

func TestAgainInEveryRowOfStates(t *testing.T) {
	for count := 1; count <= 4; count++ {
		rows(count, choices([]int{0}, []int{0}, false), func(views []api.View) {
			for _, spaces := range [][]int{{0, 0, 0, 0}, {5, 5, 5, 5}, {1, 2, 3, 4}, {4, 3, 2, 1}, {9, 0, 9, 0}, {0, 9, 0, 9}} {
				for mask := range 1 << count {
					for i := range views {
						views[i].Space, views[i].Share = spaces[i], mask>>i&1 == 1
					}
					for _, from := range lasts(count) {
						again(t, from, views)
					}
				}
			}
		})
	}
}

// P18.3

func TestNoBadPath(t *testing.T) {
	for count := 1; count <= 4; count++ {
		rows(count, choices([]int{0, 3}, []int{0}, true, false), func(views []api.View) {
			for _, kind := range kinds() {
				for last := -1; last <= count; last++ {
					list, e := Order(kind, last, views...)
					path, ok, nextE := Next(kind, last, views...)
					if e != 0 || nextE != 0 {
						t.Fatalf("%d, %d of %+v", e, nextE, views)
					}
					if ok {
						list = append(list, path)
					}
					for _, path := range list {
						if has(views, active) && views[path].State != active {
							t.Fatalf("path %d of %+v", path, views)
						}
					}
				}
			}
			for from := range count {
				path, e := Again(from, views...)
				if e != 0 || has(views, active) && views[path].State != active {
					t.Fatalf("Again(%d) = %d, %d of %+v", from, path, e, views)
				}
				others := slices.Delete(slices.Clone(views), from, from+1)
				better := slices.ContainsFunc(others, func(v api.View) bool { return v.State <= views[from].State })
				if better != (path != from) || views[path].State > views[from].State {
					t.Fatalf("Again(%d) = %d of %+v", from, path, views)
				}
			}
		})
	}
}

// P18.4

func TestRoundTellsEachInItsTurn(t *testing.T) {
	unfit := []func(v *api.View){ // why the others are not fit
		func(v *api.View) { v.Space = 0 },
		func(v *api.View) { v.Share = false },
		func(v *api.View) { v.State = inactive },
	}
	for count := 1; count <= 8; count++ {
		for fit := 1; fit < 1<<count; fit++ {
			for way, spoil := range unfit {
				states := []api.PathState{active, failing, inactive}
				if way == 2 { // the others are of a worse state
					states = states[:2]
				}
				views := slices.Repeat(row(states[fit%len(states)]), count)
				var paths []int
				for i := range views {
					if fit>>i&1 == 1 {
						paths = append(paths, i)
					} else {
						spoil(&views[i])
					}
				}
				for _, last := range lasts(count) {
					turns := goRound(t, last, 2*len(paths), views)
					for at := range turns[len(paths):] { // each so many turns in a row, not only those from the first on
						once := slices.Sorted(slices.Values(turns[at : at+len(paths)]))
						if !slices.Equal(once, paths) {
							t.Fatalf("%v behind %d of %+v", turns, last, views)
						}
					}
				}
			}
		}
	}
}

// goRound tells a path so many times, each time behind what was told.
func goRound(t *testing.T, last, times int, views []api.View) []int {
	t.Helper()
	var told []int
	for range times {
		path, ok, e := Next(round, last, views...)
		if !ok || e != 0 {
			t.Fatalf("%v, %d behind %d of %+v", ok, e, last, views)
		}
		told = append(told, path)
		last = path
	}
	return told
}

// While other paths come and go, those that are fit all the time are told no less.
func TestRoundWhileOthersComeAndGo(t *testing.T) {
	r := rand.New(rand.NewSource(184))
	for range 3000 {
		views := slices.Repeat(row(active), 2+r.Intn(maxPaths-1))
		always := 1 + r.Intn(1<<len(views)-1)
		last := pick(r, lasts(len(views))...)
		told := make([]int, len(views))
		for range len(views) {
			for i := range views {
				if always>>i&1 == 0 {
					views[i].Share = r.Intn(2) == 0
				}
			}
			last, _, _ = next(t, round, last, views)
			told[last]++
		}
		for i := range views {
			if always>>i&1 == 1 && told[i] == 0 {
				t.Fatalf("path %d is fit all the time: told %v", i, told)
			}
		}
	}
}

// P18.5

func TestPathsThatAreNotFitPlayNoPart(t *testing.T) {
	r := rand.New(rand.NewSource(185))
	changes := 0
	for range 40000 {
		views := someViews(r)
		class, fit := modelClass(views), modelFit(views)
		other := slices.Clone(views)
		for i := range other {
			if !fit[i] {
				other[i] = someView(r)
			}
		}
		if !slices.Equal(modelClass(other), class) || !slices.Equal(modelFit(other), fit) || slices.Equal(other, views) {
			continue
		}
		changes++
		for _, kind := range kinds() {
			for _, last := range lasts(len(views)) {
				path, ok, e := next(t, kind, last, views)
				otherPath, otherOK, otherE := next(t, kind, last, other)
				if path != otherPath || ok != otherOK || e != 0 || otherE != 0 {
					t.Fatalf("%d, %v of %+v, but %d, %v of %+v", path, ok, views, otherPath, otherOK, other)
				}
			}
		}
	}
	if changes < 3000 {
		t.Errorf("%d rows were changed", changes)
	}
}

// What is handed in stays the caller's, and so does what is told.

func TestToldIsTheCallers(t *testing.T) {
	for _, kind := range kinds() {
		room := row(active, active, active, active, active)
		room[0].Space, room[1].Trip, room[2].Share, room[4].State = 3, 1, false, 0
		was := slices.Clone(room)
		list, e := Order(kind, 0, room[:4:5]...)
		other, otherE := Order(kind, 0, room[:4:5]...)
		path, ok, nextE := Next(kind, 0, room[:4:5]...)
		if len(list) != 3 || e != 0 || otherE != 0 || !slices.Equal(list, other) || path != list[0] || !ok || nextE != 0 {
			t.Fatalf("%v, %d, then %v, %d, and %d, %v, %d", list, e, other, otherE, path, ok, nextE)
		}
		want := slices.Clone(other)
		for i := range list {
			list[i] = -7
		}
		_ = append(list, -8)
		if !slices.Equal(room, was) || !slices.Equal(other, want) {
			t.Errorf("%+v, %v, want %v", room, other, want)
		}
		third, _ := Order(kind, 0, room[:4:5]...)
		if !slices.Equal(third, want) {
			t.Errorf("%v, want %v", third, want)
		}
		for i := range room { // what is handed in later is what counts then
			room[i] = api.View{State: inactive, Space: 1 + i, Trip: 9 - i, Share: true}
		}
		if !slices.Equal(other, want) || !slices.Equal(third, want) {
			t.Errorf("%v, %v, want %v", other, third, want)
		}
		order(t, kind, 0, room)
		order(t, kind, 0, was[:4])
	}
}

// A call knows nothing of those ahead of it: the same ones in another order tell the same.
func TestCallsKnowNothingOfOneAnother(t *testing.T) {
	r := rand.New(rand.NewSource(186))
	type call struct {
		kind, last int
		views      []api.View
		list       []int
		path       int
	}
	var calls []call
	for range 500 {
		c := call{kind: pick(r, kinds()...), views: someViews(r)}
		c.last = r.Intn(len(c.views))
		c.list, _ = order(t, c.kind, c.last, c.views)
		c.path, _ = again(t, c.last, c.views)
		calls = append(calls, c)
	}
	r.Shuffle(len(calls), func(i, j int) { calls[i], calls[j] = calls[j], calls[i] })
	for _, c := range calls {
		list, e := order(t, c.kind, c.last, c.views)
		tells(t, list, e, c.list...)
		path, e := again(t, c.last, c.views)
		is(t, path, e, c.path)
	}
}

// All calls, at every row of small views.

func TestEveryRowOfSmallViews(t *testing.T) {
	all := choices([]int{0, 1, 2}, []int{0, 1, 2}, true, false)
	for count := 1; count <= 3; count++ {
		rows(count, all, func(views []api.View) {
			if e := check(t, views); e != 0 {
				t.Fatalf("Check(%+v) = %d", views, e)
			}
			for last := -1; last <= count; last++ {
				order(t, round, last, views)
			}
			for _, kind := range []int{byTrip, bySpace} {
				last := count - 1
				order(t, kind, last, views)
				next(t, kind, last, views)
			}
			next(t, round, 0, views)
			for from := -1; from <= count; from++ {
				again(t, from, views)
			}
		})
	}
}

// All calls, at many drawn views, those that may not be among them: none panics, and all are as the model tells.

func TestManyCalls(t *testing.T) {
	r := rand.New(rand.NewSource(18))
	for range 30000 {
		views := someViews(r)
		check(t, views)
		kind, last := pick(r, kinds()...), pick(r, lasts(len(views))...)
		order(t, kind, last, views)
		next(t, kind, last, views)
		again(t, pick(r, lasts(len(views))...), views)
	}
}

func TestManyWrongCalls(t *testing.T) {
	r := rand.New(rand.NewSource(81))
	edges := []int{math.MinInt, -1, 0, 1, 2, 3, 4, maxRtt, maxRtt + 1, maxWindow, maxWindow + 1, math.MaxInt}
	for range 60000 {
		views := make([]api.View, r.Intn(11))
		for i := range views {
			views[i] = someView(r)
		}
		for range r.Intn(3) * len(views) / 4 {
			v := &views[r.Intn(len(views))]
			switch r.Intn(3) {
			case 0:
				v.State = api.PathState(pick(r, edges...))
			case 1:
				v.Space = pick(r, edges...)
			default:
				v.Trip = pick(r, edges...)
			}
		}
		kind := pick(r, append(kinds(), badKinds()...)...)
		last := pick(r, append(lasts(len(views)), edges...)...)
		check(t, views)
		order(t, kind, last, views)
		next(t, kind, last, views)
		again(t, last, views)
	}
}

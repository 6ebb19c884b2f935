package sched

import (
	"math"
	"math/rand"
	"slices"
	"testing"

	"ropewalk/api"
)

// The chapter's words once more, by other means: what the package is held against.

const (
	maxPaths  = 8
	maxWindow = 1073741824
	maxRtt    = 1048576

	active   api.PathState = 1
	failing  api.PathState = 2
	inactive api.PathState = 3

	round   = 0
	byTrip  = 1
	bySpace = 2
)

func allStates() []api.PathState { return []api.PathState{active, failing, inactive} }

func modelCheck(views []api.View) api.Errno {
	if len(views) == 0 || len(views) > maxPaths {
		return 3
	}
	for _, v := range views {
		known := v.State == active || v.State == failing || v.State == inactive
		if !known || v.Space < 0 || v.Space > maxWindow || v.Trip < 0 || v.Trip > maxRtt {
			return 1
		}
	}
	return 0
}

func has(views []api.View, state api.PathState) bool {
	return slices.ContainsFunc(views, func(v api.View) bool { return v.State == state })
}

// modelClass tells of each path whether it is of the class.
func modelClass(views []api.View) []bool {
	in := make([]bool, len(views))
	for i, v := range views {
		switch {
		case has(views, active):
			in[i] = v.State == active
		case has(views, failing):
			in[i] = v.State == failing
		default:
			in[i] = true
		}
	}
	return in
}

// modelFit tells of each path whether it is fit.
func modelFit(views []api.View) []bool {
	fit := modelClass(views)
	for i, v := range views {
		if v.Space <= 0 || !v.Share {
			fit[i] = false
		}
	}
	return fit
}

// modelTurns are the numbers of all paths, each one behind the one whose turn is ahead of its own.
func modelTurns(last, count int) []int {
	var list []int
	for path := range count {
		if last < 0 || last >= count || path > last {
			list = append(list, path)
		}
	}
	for path := range count {
		if !slices.Contains(list, path) {
			list = append(list, path)
		}
	}
	return list
}

// modelBehind: is path a, which has the lesser number, behind path b?
func modelBehind(kind int, a, b api.View) bool {
	if kind == byTrip {
		return b.Trip < a.Trip
	}
	return b.Space > a.Space
}

func modelOrder(kind, last int, views []api.View) ([]int, api.Errno) {
	if e := modelCheck(views); e != 0 {
		return nil, e
	}
	if kind != round && kind != byTrip && kind != bySpace {
		return nil, 5
	}
	fit := modelFit(views)
	var list []int
	if kind == round {
		for _, path := range modelTurns(last, len(views)) {
			if fit[path] {
				list = append(list, path)
			}
		}
		return list, 0
	}
	for {
		best := -1
		for path := range views {
			if fit[path] && (best < 0 || modelBehind(kind, views[best], views[path])) {
				best = path
			}
		}
		if best < 0 {
			return list, 0
		}
		list = append(list, best)
		fit[best] = false
	}
}

// modelMost is the path with the most Space of those of a state, but for one; below 0 if there is none.
func modelMost(state api.PathState, but int, views []api.View) int {
	most := -1
	for path := len(views) - 1; path >= 0; path-- {
		if path != but && views[path].State == state && (most < 0 || views[path].Space >= views[most].Space) {
			most = path
		}
	}
	return most
}

func modelAgain(from int, views []api.View) (int, api.Errno) {
	if e := modelCheck(views); e != 0 {
		return 0, e
	}
	if from < 0 || from >= len(views) {
		return 0, 5
	}
	for _, state := range allStates() {
		if path := modelMost(state, from, views); path >= 0 {
			return path, 0
		}
		if views[from].State == state {
			return from, 0
		}
	}
	return from, 0
}

// Each of these makes a call with views handed in whole, holds it against the model and against itself (nothing is kept, nothing that is handed in is changed), and answers what it told.

type answer struct {
	list []int
	path int
	ok   bool
	e    api.Errno
}

func same(a, b answer) bool {
	return slices.Equal(a.list, b.list) && a.path == b.path && a.ok == b.ok && a.e == b.e
}

func twice(t *testing.T, name string, views []api.View, call func(views []api.View) answer, want answer) answer {
	t.Helper()
	was := slices.Clone(views)
	a := call(views)
	if !same(a, want) {
		t.Fatalf("%s of %+v = %+v, want %+v", name, was, a, want)
	}
	if again := call(views); !same(again, a) || !slices.Equal(views, was) {
		t.Fatalf("%s of %+v = %+v at first, then %+v; %+v behind it", name, was, a, again, views)
	}
	return a
}

func check(t *testing.T, views []api.View) api.Errno {
	t.Helper()
	return twice(t, "Check", views, func(l []api.View) answer { return answer{e: Check(l...)} }, answer{e: modelCheck(views)}).e
}

func order(t *testing.T, kind, last int, views []api.View) ([]int, api.Errno) {
	t.Helper()
	list, e := modelOrder(kind, last, views)
	a := twice(t, "Order", views, func(l []api.View) answer {
		list, e := Order(kind, last, l...)
		return answer{list: list, e: e}
	}, answer{list: list, e: e})
	return a.list, a.e
}

func next(t *testing.T, kind, last int, views []api.View) (int, bool, api.Errno) {
	t.Helper()
	want := answer{}
	list, e := modelOrder(kind, last, views)
	if want.e = e; len(list) > 0 {
		want.path, want.ok = list[0], true
	}
	a := twice(t, "Next", views, func(l []api.View) answer {
		path, ok, e := Next(kind, last, l...)
		return answer{path: path, ok: ok, e: e}
	}, want)
	return a.path, a.ok, a.e
}

func again(t *testing.T, from int, views []api.View) (int, api.Errno) {
	t.Helper()
	path, e := modelAgain(from, views)
	a := twice(t, "Again", views, func(l []api.View) answer {
		path, e := Again(from, l...)
		return answer{path: path, e: e}
	}, answer{path: path, e: e})
	return a.path, a.e
}

// rows goes through all rows of so many views, each of them one of the choices. A row is good for one turn.
func rows(count int, choices []api.View, each func(row []api.View)) {
	row := make([]api.View, count)
	var fill func(at int)
	fill = func(at int) {
		if at == count {
			each(row)
			return
		}
		for _, v := range choices {
			row[at] = v
			fill(at + 1)
		}
	}
	fill(0)
}

// choices are all views of these fields.
func choices(spaces, trips []int, shares ...bool) []api.View {
	var list []api.View
	for _, state := range allStates() {
		for _, space := range spaces {
			for _, trip := range trips {
				for _, share := range shares {
					list = append(list, api.View{State: state, Space: space, Trip: trip, Share: share})
				}
			}
		}
	}
	return list
}

// lasts are path numbers, and others, of so many views.
func lasts(count int) []int {
	list := []int{math.MinInt, -1 << 32, -2, -1, count, count + 1, 1 << 32, math.MaxInt - 1, math.MaxInt}
	for path := range min(count, maxPaths+1) {
		list = append(list, path)
	}
	return list
}

func kinds() []int { return []int{round, byTrip, bySpace} }

func badKinds() []int { return []int{math.MinInt, -1 << 32, -1, 3, 4, 1 << 32, math.MaxInt} }

// pick is one of a list.
func pick[A any](r *rand.Rand, list ...A) A { return list[r.Intn(len(list))] }

// someView may be: with fields at their edges and in between, alike ones often.
func someView(r *rand.Rand) api.View {
	return api.View{
		State: pick(r, allStates()...),
		Space: pick(r, 0, 0, 1, 2, 3, 1500, r.Intn(maxWindow+1), maxWindow-1, maxWindow),
		Trip:  pick(r, 0, 0, 1, 2, 3, 200, r.Intn(maxRtt+1), maxRtt-1, maxRtt),
		Share: r.Intn(4) > 0,
	}
}

// someViews are from 1 to 8; now and then all of a few states only.
func someViews(r *rand.Rand) []api.View {
	views := make([]api.View, 1+r.Intn(maxPaths))
	worst := 1 + r.Intn(3)
	for i := range views {
		views[i] = someView(r)
		views[i].State = max(views[i].State, api.PathState(worst))
	}
	return views
}

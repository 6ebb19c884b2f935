package sched

import (
	"cmp"
	"slices"

	"ropewalk/api"
)

// wrong: a view that may not be.
func wrong(v api.View) bool {
	return !within(api.Active, v.State, api.Inactive) || !within(0, v.Space, api.MaxWindow) || !within(0, v.Trip, api.MaxRtt)
}

// class are those of the paths in question that have the best state among them. Paths of a state behind the worst one do not count. The numbers rise.
func class(worst api.PathState, question func(path int) bool, views ...api.View) []int {
	var list []int
	take := func(state api.PathState) {
		var found []int
		for path, v := range views {
			if v.State == state && question(path) {
				found = append(found, path)
			}
		}
		if len(found) > 0 {
			list = found
		}
	}
	switch worst { // a better state that has paths leaves none of a worse one
	case api.Inactive:
		take(api.Inactive)
		fallthrough
	case api.Failing:
		take(api.Failing)
		fallthrough
	case api.Active:
		take(api.Active)
	}
	return list
}

// cost tells what speaks against a path: of two the better one has the lesser cost.
func cost(kind, last int, views ...api.View) func(path int) int {
	switch kind {
	case api.SchedTrip:
		return func(path int) int { return views[path].Trip }
	case api.SchedSpace:
		return func(path int) int { return -views[path].Space }
	}
	first := 0
	if within(0, last, len(views)-1) { // asked ahead of the sum, which would wrap behind the greatest int
		first = last + 1
	}
	return func(path int) int { return (path - first + len(views)) % len(views) }
}

// ranked lays paths, whose numbers rise, in the order of their costs: alike ones stay by their numbers.
func ranked(list []int, cost func(path int) int) []int {
	slices.SortStableFunc(list, func(a, b int) int { return cmp.Compare(cost(a), cost(b)) })
	return list
}

func within[N ~int](low, n, high N) bool { return low <= n && n <= high }

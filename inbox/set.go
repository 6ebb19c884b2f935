package inbox

import (
	"ropewalk/api"
	"ropewalk/spans"
)

// set is what came, and what of it is fixed. The calls of spans are not a box's own: so it stands between.
type set struct {
	came  *spans.Set
	fixed *spans.Set // a part of what came, whose cum is the same
}

func setUpTo(cum uint32) set {
	return set{came: spans.New(cum), fixed: spans.New(cum)}
}

// put puts in a TSN that came: was it not there?
func (s *set) put(tsn uint32) (bool, api.Errno) {
	fresh, e := s.came.Add(tsn)
	s.follow()
	return fresh, e
}

// follow moves the fixed ones' cum to that of what came. It can't run past: what is fixed came.
func (s *set) follow() {
	for s.fixed.Cum() != s.came.Cum() {
		s.fixed.Add(s.fixed.Cum() + 1)
	}
}

// take takes out a TSN above cum that is not fixed: was it there?
func (s *set) take(tsn uint32) bool {
	return !s.fixed.Has(tsn) && s.came.Del(tsn)
}

// fix fixes a TSN above cum that came: was it not fixed?
func (s *set) fix(tsn uint32) bool {
	if !s.came.Has(tsn) {
		return false
	}
	anew, _ := s.fixed.Add(tsn)
	return anew
}

// loose is what came and is not fixed.
func (s *set) loose() *spans.Set {
	loose := spans.New(s.came.Cum())
	for _, tsn := range s.came.All() {
		if !s.fixed.Has(tsn) {
			loose.Add(tsn)
		}
	}
	return loose
}

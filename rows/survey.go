package rows

import (
	"math"

	"cadastre/api"
	"cadastre/draft"
)

// survey is all that a tree is.
type survey struct {
	d     *draft.Draft
	seen  map[int]struct{} // which pages are its own
	pages []int
	keys  []int64
	data  [][]byte
}

// branch is a knot that a fork tells of: its page, and the least key that may lie below it.
type branch struct {
	key int64
	at  int
}

// look goes through a whole tree, level by level; ErrForm, if it is none.
func look(d *draft.Draft, root int) (survey, api.Errno) {
	s := survey{d: d, seen: map[int]struct{}{}}
	level := []branch{{math.MinInt64, root}}
down:
	knots, e := s.level(level)
	if e != api.OK {
		return survey{}, e
	}
	if knots[0].kind == kindFork {
		level = branches(knots)
		goto down
	}
	if e := s.records(knots); e != api.OK {
		return survey{}, e
	}
	return s, api.OK
}

// level tells the knots that the branches tell of, all leaves or all forks.
func (s *survey) level(level []branch) ([]knot, api.Errno) {
	var knots []knot
	for i, b := range level {
		x, e := load(s.d, b.at)
		if e != api.OK {
			return nil, e
		}
		knots = append(knots, x)
		if !s.count(b.at) || x.kind != knots[0].kind || !within(x, level[i:]) || len(level) > 1 && thin(x.cells) {
			return nil, api.ErrForm
		}
	}
	return knots, api.OK
}

// within asks whether x's keys are those that its branch, the first one, leaves room for ahead of the next one.
func within(x knot, level []branch) bool {
	if len(x.cells) == 0 {
		return true
	}
	least, key := x.key(0), level[0].key
	if least < key || x.kind == kindFork && least > key {
		return false
	}
	return len(level) == 1 || x.key(len(x.cells)-1) < level[1].key
}

// count takes page n for the tree's own, and tells whether it was not yet.
func (s *survey) count(n int) bool {
	if _, seen := s.seen[n]; seen {
		return false
	}
	s.seen[n] = struct{}{}
	s.pages = append(s.pages, n)
	return true
}

// branches tells what the forks tell of.
func branches(forks []knot) []branch {
	var l []branch
	for _, x := range forks {
		for i := range x.cells {
			l = append(l, branch{x.key(i), x.child(i)})
		}
	}
	return l
}

// records takes in what the leaves hold.
func (s *survey) records(leaves []knot) api.Errno {
	for _, x := range leaves {
		for i := range x.cells {
			at, data, e := s.d.Read(x.bytes(i))
			if e != api.OK {
				return e
			}
			for _, n := range at {
				if !s.count(n) {
					return api.ErrForm
				}
			}
			s.keys, s.data = append(s.keys, x.key(i)), append(s.data, data)
		}
	}
	return api.OK
}

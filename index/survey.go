package index

import (
	"cadastre/api"
	"cadastre/keys"
	"cadastre/pages"
)

// survey is all that an index is.
type survey struct {
	g     *pages.Pages
	seen  []bool // which pages are its own
	pages []int
	keys  [][]api.Value
}

// branch is a knot that a fork tells of: its page, and the least key that may lie below it.
type branch struct {
	least []api.Value
	at    int
}

// look goes through a whole index, level by level; ErrForm, if it is none.
func look(g *pages.Pages, root int) (survey, api.Errno) {
	s := survey{g: g, seen: make([]bool, api.MaxPages)}
	level := []branch{{nil, root}}
down:
	knots, e := s.knots(level)
	if e != api.OK {
		return survey{}, e
	}
	if knots[0].kind == kindFork {
		if level, e = s.branches(knots, level); e != api.OK {
			return survey{}, e
		}
		goto down
	}
	if e := s.leaves(knots, level, root); e != api.OK {
		return survey{}, e
	}
	return s, api.OK
}

// knots tells the knots that the branches tell of, all leaves or all forks.
func (s *survey) knots(level []branch) ([]knot, api.Errno) {
	var knots []knot
	for _, b := range level {
		x, e := load(s.g, b.at)
		if e != api.OK {
			return nil, e
		}
		knots = append(knots, x)
		if !s.count(b.at) || x.kind != knots[0].kind {
			return nil, api.ErrForm
		}
	}
	return knots, api.OK
}

// count takes page n for the index's own, and tells whether it was not yet.
func (s *survey) count(n int) bool {
	if s.seen[n] {
		return false
	}
	s.seen[n] = true
	s.pages = append(s.pages, n)
	return true
}

// key tells key i of x, and takes its pages for the index's own.
func (s *survey) key(x knot, i int) ([]api.Value, api.Errno) {
	at, k, e := readKey(s.g, x.holder(i))
	if e != api.OK {
		return nil, e
	}
	for _, n := range at {
		if !s.count(n) {
			return nil, api.ErrForm
		}
	}
	return k, api.OK
}

// branches tells what the forks, those of a level, tell of: the bounds rise, within what is bound above.
func (s *survey) branches(forks []knot, level []branch) ([]branch, api.Errno) {
	var l []branch
	for i, x := range forks {
		l = append(l, branch{level[i].least, x.child(0)})
		for j := 1; j < len(x.cells); j++ {
			k, e := s.key(x, j)
			if e != api.OK {
				return nil, e
			}
			l = append(l, branch{k, x.child(j)})
		}
	}
	for i := 1; i < len(l); i++ {
		if !below(l[i-1].least, l[i].least) {
			return nil, api.ErrForm
		}
	}
	return l, api.OK
}

// leaves takes in the keys of the leaves: they rise, within their bounds, and only the root may have none.
func (s *survey) leaves(leaves []knot, level []branch, root int) api.Errno {
	for i, x := range leaves {
		if len(x.cells) == 0 && x.at != root || i > 0 && !below(s.last(), level[i].least) {
			return api.ErrForm
		}
		for j := range x.cells {
			k, e := s.key(x, j)
			if e != api.OK {
				return e
			}
			if below(k, level[i].least) || j > 0 && !below(s.last(), k) {
				return api.ErrForm
			}
			s.keys = append(s.keys, k)
		}
	}
	return api.OK
}

func (s *survey) last() []api.Value { return s.keys[len(s.keys)-1] }

// below asks whether a, a key, is below b, a key.
func below(a, b []api.Value) bool {
	c, _ := keys.Cmp(a, b)
	return c < 0
}

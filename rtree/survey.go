package rtree

import (
	"bytes"
	"cmp"
	"slices"

	"cadastre/api"
	"cadastre/draft"
	"cadastre/pages"
	"cadastre/tree"
)

// survey is what is to be seen of a tree of boxes.
type survey struct {
	d         *draft.Draft
	directory int
	taken     func(b api.Box) bool // which boxes are looked at, and below
	seen      []bool               // which pages are its own
	pages     []int
	leaves    [][]api.Entry
}

// look goes through the tree below the root, level by level, wherever boxes are taken; ErrForm, if it sees that it is none.
func look(g *pages.Pages, root knot, taken func(b api.Box) bool) (survey, api.Errno) {
	s := survey{d: draft.On(g), directory: root.next, taken: taken, seen: make([]bool, api.MaxPages)}
	s.count(root.at)
	level := []knot{root}
down:
	if len(level) > 0 && level[0].kind == kindFork {
		var e api.Errno
		if level, e = s.below(level); e != api.OK {
			return survey{}, e
		}
		goto down
	}
	for _, x := range level {
		if l := s.take(x.list); len(l) > 0 {
			s.leaves = append(s.leaves, l)
		}
	}
	return s, api.OK
}

// below tells the knots below the forks, all leaves or all forks.
func (s *survey) below(forks []knot) ([]knot, api.Errno) {
	var level []knot
	for _, x := range forks {
		for _, y := range s.take(x.list) {
			z, e := loadBelow(s.d, y)
			if e != api.OK {
				return nil, e
			}
			level = append(level, z)
			if !s.count(z.at) || z.kind != level[0].kind || around(z.list) != y.Box {
				return nil, api.ErrForm
			}
		}
	}
	return level, api.OK
}

// take tells the entries of l whose boxes are taken.
func (s *survey) take(l []api.Entry) []api.Entry {
	return slices.DeleteFunc(l, func(x api.Entry) bool { return !s.taken(x.Box) })
}

// count takes page n for the tree's own, and tells whether it was not yet.
func (s *survey) count(n int) bool {
	if s.seen[n] {
		return false
	}
	s.seen[n] = true
	s.pages = append(s.pages, n)
	return true
}

// entries tells those of all leaves, by rising ID.
func (s *survey) entries() []api.Entry {
	l := slices.Concat(s.leaves...)
	slices.SortFunc(l, func(x, y api.Entry) int { return cmp.Compare(x.ID, y.ID) })
	return l
}

// whole goes through a whole tree; ErrForm, unless its directory holds just the leaves' entries.
func whole(g *pages.Pages, at int) (survey, api.Errno) {
	root, e := loadRoot(draft.On(g), at)
	if e != api.OK {
		return survey{}, e
	}
	s, e := look(g, root, func(api.Box) bool { return true })
	if e != api.OK {
		return survey{}, e
	}
	ids, boxes, e := tree.Dump(g, s.directory)
	if e != api.OK {
		return survey{}, e
	}
	if !isDirectory(ids, boxes, s.entries()) {
		return survey{}, api.ErrForm
	}
	return s, api.OK
}

// isDirectory asks whether the identities, and their boxes as bytes, are those of l.
func isDirectory(ids []int64, boxes [][]byte, l []api.Entry) bool {
	if len(ids) != len(l) {
		return false
	}
	for i, x := range l {
		if ids[i] != x.ID || !bytes.Equal(boxes[i], boxBytes(x.Box)) {
			return false
		}
	}
	return true
}

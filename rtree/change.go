package rtree

import (
	"slices"

	"cadastre/api"
	"cadastre/box"
	"cadastre/draft"
	"cadastre/split"
)

// change is all that is to be done to the pages of a tree of boxes.
type change struct{ *draft.Draft }

// step is a knot on a way down, and the place of the entry that the way goes on with, or, in a leaf, ends at.
type step struct {
	knot
	i int
}

// add plans that the entry comes to those of the tree at root.
func (c change) add(root int, x api.Entry) {
	path, e := c.down(root, x.Box)
	if c.Fail(e); e != api.OK {
		return
	}
	c.settle(path, slices.Concat(path[len(path)-1].list, []api.Entry{x}))
}

// remove plans that the entry, which is one of the tree at root, goes.
func (c change) remove(root int, x api.Entry) {
	path, e := c.seek(root, x)
	if c.Fail(e); e != api.OK {
		return
	}
	leaf := path[len(path)-1]
	_, rest := apart(leaf.list, leaf.i)
	c.settle(path, rest)
}

// down tells the way from the root to the leaf in which the box is best put.
func (c change) down(root int, b api.Box) ([]step, api.Errno) {
	var path []step
	x, e := loadRoot(c.Draft, root)
next:
	if e != api.OK || len(path) == deepest {
		return nil, failing(e)
	}
	if x.kind == kindLeaf {
		return append(path, step{knot: x}), api.OK
	}
	i, e := split.Choose(x.list, b)
	if e != api.OK {
		return nil, e
	}
	path = append(path, step{x, i})
	x, e = loadBelow(c.Draft, x.list[i])
	goto next
}

// failing tells the error e, or, if it is none, that what lies there is no tree of boxes.
func failing(e api.Errno) api.Errno {
	if e != api.OK {
		return e
	}
	return api.ErrForm
}

// seek tells the way from the root to the entry x. It goes back up where it was led astray, as the boxes of several knots may
// hold that of x.
func (c change) seek(root int, x api.Entry) ([]step, api.Errno) {
	var path []step
	seen := 0
	y, e := loadRoot(c.Draft, root)
down:
	// A tree has fewer pages: without the bound ways that meet again would be gone too often.
	if seen++; e != api.OK || len(path) == deepest || seen == api.MaxPages {
		return nil, failing(e)
	}
	path = append(path, step{y, -1})
on:
	top := &path[len(path)-1]
	top.i = top.behind(x)
	switch {
	case top.i == len(top.list) && len(path) == 1:
		return nil, api.ErrForm
	case top.i == len(top.list):
		path = path[:len(path)-1]
		goto on
	case top.kind == kindLeaf:
		return path, api.OK
	}
	y, e = loadBelow(c.Draft, top.list[top.i])
	goto down
}

// behind tells the next place, behind the step's own, at which x stands or below which it may; how many there are, if none is left.
func (s step) behind(x api.Entry) int {
	i := s.i + 1
	for i < len(s.list) && !s.leads(s.list[i], x) {
		i++
	}
	return i
}

// leads asks whether y, an entry of the knot, is x, or x may lie below it.
func (s step) leads(y, x api.Entry) bool {
	if s.kind == kindLeaf {
		return y == x
	}
	holds, _ := box.Holds(y.Box, x.Box)
	return holds
}

// settle gives the last knot of the path this list, and changes what lies above it where it must.
func (c change) settle(path []step, list []api.Entry) {
	level := len(path) - 1
up:
	x := path[level].knot
	if level == 0 {
		c.settleRoot(x, x.kind, list)
		return
	}
	above := path[level-1]
	some := c.gather(above, x.kind, list)
	if len(some.rest) == 0 && len(some.list) <= api.Fan {
		// The root's only child is not left: the root takes its place. (Below the root there is always a rest.)
		c.Give(places(some.above)...)
		c.settleRoot(above.knot, x.kind, some.list)
		return
	}
	forks := c.lay(x.kind, some)
	if slices.Equal(forks, some.above) {
		return
	}
	list = slices.Concat(some.rest, forks)
	level--
	goto up
}

// settleRoot makes the root x one of that kind with this list. If it is too long the root goes on as a fork, since its number
// stays.
func (c change) settleRoot(x knot, kind int, list []api.Entry) {
	if len(list) > api.Fan {
		kind, list = kindFork, c.lay(kind, group{list: list})
	}
	c.Put(x.at, kind, x.next, cells(list))
}

// group is a knot's entries, or those of two, that are laid anew.
type group struct {
	above []api.Entry // what tells of these knots
	rest  []api.Entry // what stands beside that
	list  []api.Entry
}

// gather tells the knot to which the way leads from above, with this list, and, if that is too short, with a neighbour's: the one
// whose box grows least.
func (c change) gather(above step, kind int, list []api.Entry) group {
	x, rest := apart(above.list, above.i)
	if len(list) >= api.FanLow {
		return group{[]api.Entry{x}, rest, list}
	}
	i, e := split.Choose(rest, around(list))
	c.Fail(e)
	y, rest := apart(rest, i)
	neighbour, e := loadBelow(c.Draft, y)
	if e == api.OK && neighbour.kind != kind {
		e = api.ErrForm
	}
	c.Fail(e)
	return group{[]api.Entry{x, y}, rest, slices.Concat(list, neighbour.list)}
}

// lay puts the group's list on its pages, or on one more or less, and tells what is to tell of them.
func (c change) lay(kind int, some group) []api.Entry {
	c.Give(places(some.above)...)
	var forks []api.Entry
	for _, part := range c.parts(some.list) {
		n := c.Take()
		c.Put(n, kind, 0, cells(part))
		forks = append(forks, api.Entry{ID: int64(n), Box: around(part)})
	}
	return forks
}

// parts tells the list as one, or, if it is too long, in two. It has at most Fan entries and two more, and a side of a cut has
// room for one.
func (c change) parts(l []api.Entry) [][]api.Entry {
	if len(l) <= api.Fan {
		return [][]api.Entry{l}
	}
	a, b, e := split.Split(l[:api.Fan+1])
	if c.Fail(e); e != api.OK {
		return nil
	}
	sides := [][]api.Entry{a, b}
	for _, x := range l[api.Fan+1:] {
		i, e := split.Choose([]api.Entry{{Box: around(a)}, {Box: around(b)}}, x.Box)
		c.Fail(e)
		sides[i] = append(sides[i], x)
	}
	return sides
}

// places tells the pages of the knots of which the entries tell.
func places(l []api.Entry) []int {
	var at []int
	for _, x := range l {
		at = append(at, int(x.ID))
	}
	return at
}

// apart tells entry i of l, and the others.
func apart(l []api.Entry, i int) (api.Entry, []api.Entry) {
	return l[i], slices.Concat(l[:i], l[i+1:])
}

package index

import (
	"bytes"
	"slices"

	"cadastre/api"
	"cadastre/draft"
	"cadastre/node"
	"cadastre/pages"
	"cadastre/record"
)

// change is all that is to be done to an index's pages.
type change struct {
	*draft.Draft
	g    *pages.Pages
	k    []api.Value // a key that comes
	cell []byte      // its cell
}

// add puts the key k, whose record data is, where the path leads.
func add(g *pages.Pages, path []step, k []api.Value, data []byte) api.Errno {
	return draft.Do(g, func(d *draft.Draft) {
		c := change{d, g, k, d.Store(data)}
		leaf := path[len(path)-1]
		c.settle(path, slices.Concat(leaf.cells[:leaf.i], [][]byte{c.cell}, leaf.cells[leaf.i:]))
	})
}

// remove takes away the key to which the path leads.
func remove(g *pages.Pages, path []step) api.Errno {
	return draft.Do(g, func(d *draft.Draft) {
		c := change{Draft: d, g: g}
		leaf := path[len(path)-1]
		c.forget(leaf.cells[leaf.i])
		c.settle(path, slices.Concat(leaf.cells[:leaf.i], leaf.cells[leaf.i+1:]))
	})
}

// forget gives up the pages on which the bytes lie that the cell holds.
func (c change) forget(cell []byte) {
	at, _, e := c.Read(cell)
	c.Fail(e)
	c.Give(at...)
}

// settle gives the last knot of the path these cells, and changes what lies above it where it must.
func (c change) settle(path []step, cells [][]byte) {
	level := len(path) - 1
up:
	x := path[level].knot
	if level == 0 {
		c.settleRoot(x.at, x.kind, cells)
		return
	}
	above := path[level-1]
	some := c.gather(above, x, cells)
	if level == 1 && len(some.at) == len(above.cells) && node.Room(some.cells) >= 0 {
		// The root's only child is not left: the root takes its place.
		c.Give(some.at...)
		c.settleRoot(above.at, x.kind, some.cells)
		return
	}
	forks := c.lay(x.kind, above.holder(some.first), some)
	forks = slices.Concat(above.cells[:some.first], forks, above.cells[some.first+len(some.at):])
	if slices.EqualFunc(forks, above.cells, bytes.Equal) {
		return
	}
	cells = forks
	level--
	goto up
}

// settleRoot gives the root these cells. If they are too many it goes on as a fork, since its number stays.
func (c change) settleRoot(at, kind int, cells [][]byte) {
	switch {
	case len(cells) == 0:
		kind = kindLeaf
	case node.Room(cells) < 0:
		kind, cells = kindFork, c.lay(kind, nil, group{cells: cells})
	}
	c.Put(at, kind, 0, cells)
}

// group is a knot's cells that are laid anew, or those of two neighbours.
type group struct {
	first int   // the cell above the first one
	at    []int // the pages
	cells [][]byte
}

// gather tells x with these cells, and, where some went and few are left, with a neighbour's, if one page is enough for both.
func (c change) gather(above step, x knot, cells [][]byte) group {
	i, grown := above.i, draft.Cost(cells) >= draft.Cost(x.cells)
	x.cells = cells
	alone := group{i, []int{x.at}, cells}
	if grown || 2*draft.Cost(cells) > node.Room(nil) {
		return alone
	}
	if i+1 < len(above.cells) {
		if both, ok := c.pair(above, i, x, c.neighbour(above.child(i+1), x.kind)); ok {
			return both
		}
	}
	if i > 0 {
		if both, ok := c.pair(above, i-1, c.neighbour(above.child(i-1), x.kind), x); ok {
			return both
		}
	}
	return alone
}

// neighbour tells the knot on page at, which is to be of that kind.
func (c change) neighbour(at, kind int) knot {
	x, e := load(c.g, at)
	if e == api.OK && x.kind != kind {
		x, e = knot{}, api.ErrForm
	}
	c.Fail(e)
	return x
}

// pair tells x and y, the knots below the cells i and i + 1 of above, as one, and whether that is to be: a quarter of its page
// is to be left, so that they are not soon parted again; but a knot without cells never stays.
func (c change) pair(above step, i int, x, y knot) (group, bool) {
	empty := len(x.cells) == 0 || len(y.cells) == 0
	bound := above.holder(i + 1)
	cells := slices.Concat(x.cells, y.cells)
	if x.kind == kindFork && !empty {
		// What was the first one of its fork has a bound now.
		cells[len(x.cells)] = slices.Concat(y.cells[0], bound)
	}
	if !empty && 4*draft.Cost(cells) > 3*node.Room(nil) {
		return group{}, false
	}
	if x.kind == kindLeaf || empty {
		c.forget(bound)
	}
	return group{i, []int{x.at, y.at}, cells}, true
}

// lay puts the group's cells on its pages, or on one more or less, and tells the cells above them, the first one with that bound.
func (c change) lay(kind int, bound []byte, some group) [][]byte {
	c.Give(some.at...)
	if len(some.cells) == 0 {
		return nil
	}
	if node.Room(some.cells) >= 0 {
		return [][]byte{c.place(kind, some.cells, bound)}
	}
	left, middle, right := c.cut(kind, some.cells)
	return [][]byte{c.place(kind, left, bound), c.place(kind, right, middle)}
}

// place puts cells on a page, and tells the cell above it.
func (c change) place(kind int, cells [][]byte, bound []byte) []byte {
	n := c.Take()
	c.Put(n, kind, 0, cells)
	return slices.Concat(draft.Digits(uint64(n), draft.PlaceSize), bound)
}

// cut tells the cells of a knot in two parts that are about as long, and the bound of the second one.
func (c change) cut(kind int, cells [][]byte) (left [][]byte, bound []byte, right [][]byte) {
	i := draft.Half(cells)
	left, right = cells[:i], cells[i:]
	if kind == kindLeaf {
		return left, c.bound(cells[i-1], cells[i]), right
	}
	// A fork's first cell has no bound: that goes up.
	place, bound := cells[i][:draft.PlaceSize], cells[i][draft.PlaceSize:]
	return left, bound, slices.Concat([][]byte{place}, right[1:])
}

// bound tells a cell that holds a bound between two neighbours among a leaf's cells.
func (c change) bound(a, b []byte) []byte {
	data, e := record.Encode(between(c.key(a), c.key(b)))
	c.Fail(e)
	return c.Store(data)
}

// key tells the key that a leaf's cell holds. The one that comes does not lie on its pages yet.
func (c change) key(cell []byte) []api.Value {
	if bytes.Equal(cell, c.cell) {
		return c.k
	}
	_, k, e := readKey(c.g, cell)
	c.Fail(e)
	return k
}

package tree

import (
	"bytes"
	"math"
	"slices"

	"cadastre/api"
	"cadastre/draft"
	"cadastre/node"
	"cadastre/pages"
)

// wish is what is to become of a key: it holds data, or it goes.
type wish struct {
	key  int64
	data []byte
	gone bool
}

// change is all that is to be done to a tree's pages.
type change struct {
	*draft.Draft
	g *pages.Pages
}

// fulfil does what is wished to the leaf at the end of the path, and tells whether the key was there.
func fulfil(g *pages.Pages, path []step, w wish) (bool, api.Errno) {
	_, was := path[len(path)-1].find(w.key)
	if e := draft.Do(g, func(d *draft.Draft) { change{d, g}.plan(path, w) }); e != api.OK {
		return false, e
	}
	return was, api.OK
}

// plan puts together what fulfils the wish.
func (c change) plan(path []step, w wish) {
	leaf := path[len(path)-1]
	i, was := leaf.find(w.key)
	behind := i
	if was {
		at, _, e := record(c.g, leaf.cells[i])
		c.Fail(e)
		c.Give(at...)
		behind++
	}
	var cells [][]byte
	if !w.gone {
		cells = append(cells, slices.Concat(draft.Digits(uint64(w.key), keySize), c.Store(w.data)))
	}
	c.settle(path, slices.Concat(leaf.cells[:i], cells, leaf.cells[behind:]))
}

// settle gives the last knot of the path these cells, and changes what lies above it where it must.
func (c change) settle(path []step, cells [][]byte) {
	level := len(path) - 1
up:
	x := path[level].knot
	if level == 0 {
		c.settleRoot(x, cells)
		return
	}
	above := path[level-1]
	some := c.gather(above, x, cells)
	if len(some.at) == len(above.cells) && node.Room(some.cells) >= 0 {
		// An only child is not left: what is above takes its place.
		c.Put(above.at, x.kind, 0, some.cells)
		c.Give(some.at...)
		return
	}
	forks := c.lay(x.kind, above.key(some.first), some)
	forks = slices.Concat(above.cells[:some.first], forks, above.cells[some.first+len(some.at):])
	if slices.EqualFunc(forks, above.cells, bytes.Equal) {
		return
	}
	cells = forks
	level--
	goto up
}

// settleRoot gives the root x these cells. If they are too many it goes on as a fork, since its number stays.
func (c change) settleRoot(x knot, cells [][]byte) {
	if node.Room(cells) >= 0 {
		c.Put(x.at, x.kind, 0, cells)
		return
	}
	c.Put(x.at, kindFork, 0, c.lay(x.kind, math.MinInt64, group{cells: cells}))
}

// group is a knot's cells that are laid anew, or those of two neighbours.
type group struct {
	first int   // the cell above the first one
	at    []int // the pages
	cells [][]byte
}

// gather tells x with these cells, and, if they are thin, with its neighbour's.
func (c change) gather(above step, x knot, cells [][]byte) group {
	i := above.i
	if !thin(cells) {
		return group{i, []int{x.at}, cells}
	}
	if i+1 < len(above.cells) {
		y := c.neighbour(above.child(i+1), x.kind)
		return group{i, []int{x.at, y.at}, slices.Concat(cells, y.cells)}
	}
	y := c.neighbour(above.child(i-1), x.kind)
	return group{i - 1, []int{y.at, x.at}, slices.Concat(y.cells, cells)}
}

// neighbour tells the knot on page at, which is to be of that kind.
func (c change) neighbour(at, kind int) knot {
	x, e := load(c.g, at)
	if e == api.OK && x.kind != kind {
		e = api.ErrForm
	}
	c.Fail(e)
	return x
}

// lay puts the group's cells on its pages, or on one more or less, and tells the cells above them, the first one with key.
func (c change) lay(kind int, key int64, some group) [][]byte {
	c.Give(some.at...)
	var forks [][]byte
	for i, part := range cut(some.cells) {
		if i > 0 {
			key = keyOf(part[0])
		}
		n := c.Take()
		c.Put(n, kind, 0, part)
		forks = append(forks, forkCell(key, n))
	}
	return forks
}

package rows

import (
	"bytes"
	"math"
	"slices"

	"cadastre/api"
	"cadastre/draft"
	"cadastre/node"
)

// change is all that is to be done to a tree's pages.
type change struct{ *draft.Draft }

// Put plans that the key of the tree at root holds data, and tells whether it was there.
func Put(d *draft.Draft, root int, key int64, data []byte) (was bool) {
	path, e := down(d, root, key)
	if e == api.OK && len(data) > api.MaxRecord {
		e = api.ErrLimit
	}
	if d.Fail(e); e != api.OK {
		return false
	}
	c := change{d}
	i, behind := c.forget(path, key)
	cell := slices.Concat(draft.Digits(uint64(key), keySize), c.Store(data))
	leaf := path[len(path)-1]
	c.settle(path, slices.Concat(leaf.cells[:i], [][]byte{cell}, leaf.cells[behind:]))
	return i < behind
}

// Delete plans that the key of the tree at root goes, and tells whether it was there.
func Delete(d *draft.Draft, root int, key int64) (was bool) {
	path, e := down(d, root, key)
	if d.Fail(e); e != api.OK {
		return false
	}
	c := change{d}
	i, behind := c.forget(path, key)
	if i == behind {
		return false
	}
	leaf := path[len(path)-1]
	c.settle(path, slices.Concat(leaf.cells[:i], leaf.cells[behind:]))
	return true
}

// forget gives up the pages of the key's bytes, and tells where in the path's leaf the key stands and where what is behind it;
// both are one, if it is not there.
func (c change) forget(path []step, key int64) (i, behind int) {
	leaf := path[len(path)-1]
	i, was := leaf.find(key)
	if !was {
		return i, i
	}
	at, _, e := c.Read(leaf.bytes(i))
	c.Fail(e)
	c.Give(at...)
	return i, i + 1
}

// settle gives the last knot of the path these cells, and changes what lies above it where it must.
func (c change) settle(path []step, cells [][]byte) {
	level := len(path) - 1
up:
	x := path[level].knot
	if level == 0 {
		c.settleRoot(x, cells)
		return
	}
	above := path[level-1]
	some := c.gather(above, x, cells)
	if len(some.at) == len(above.cells) && node.Room(some.cells) >= 0 {
		// An only child is not left: what is above takes its place.
		c.Put(above.at, x.kind, 0, some.cells)
		c.Give(some.at...)
		return
	}
	forks := c.lay(x.kind, above.key(some.first), some)
	forks = slices.Concat(above.cells[:some.first], forks, above.cells[some.first+len(some.at):])
	if slices.EqualFunc(forks, above.cells, bytes.Equal) {
		return
	}
	cells = forks
	level--
	goto up
}

// settleRoot gives the root x these cells. If they are too many it goes on as a fork, since its number stays.
func (c change) settleRoot(x knot, cells [][]byte) {
	if node.Room(cells) >= 0 {
		c.Put(x.at, x.kind, 0, cells)
		return
	}
	c.Put(x.at, kindFork, 0, c.lay(x.kind, math.MinInt64, group{cells: cells}))
}

// group is a knot's cells that are laid anew, or those of two neighbours.
type group struct {
	first int   // the cell above the first one
	at    []int // the pages
	cells [][]byte
}

// gather tells x with these cells, and, if they are thin, with its neighbour's.
func (c change) gather(above step, x knot, cells [][]byte) group {
	i := above.i
	if !thin(cells) {
		return group{i, []int{x.at}, cells}
	}
	if i+1 < len(above.cells) {
		y := c.neighbour(above.child(i+1), x.kind)
		return group{i, []int{x.at, y.at}, slices.Concat(cells, y.cells)}
	}
	y := c.neighbour(above.child(i-1), x.kind)
	return group{i - 1, []int{y.at, x.at}, slices.Concat(y.cells, cells)}
}

// neighbour tells the knot on page at, which is to be of that kind.
func (c change) neighbour(at, kind int) knot {
	x, e := load(c.Draft, at)
	if e == api.OK && x.kind != kind {
		e = api.ErrForm
	}
	c.Fail(e)
	return x
}

// lay puts the group's cells on its pages, or on one more or less, and tells the cells above them, the first one with key.
func (c change) lay(kind int, key int64, some group) [][]byte {
	c.Give(some.at...)
	var forks [][]byte
	for i, part := range cut(some.cells) {
		if i > 0 {
			key = keyOf(part[0])
		}
		n := c.Take()
		c.Put(n, kind, 0, part)
		forks = append(forks, forkCell(key, n))
	}
	return forks
}

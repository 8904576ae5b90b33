package tree

import (
	"bytes"
	"math"
	"slices"

	"cadastre/api"
	"cadastre/node"
	"cadastre/pages"
)

// enough: Alloc may be told ErrLimit, once so many pages are held.
const enough = api.MaxPages - 42

// wish is what is to become of a key: it holds data, or it goes.
type wish struct {
	key  int64
	data []byte
	gone bool
}

// write is a page that is to be written.
type write struct {
	at   int
	page []byte
}

// change is all that is to be done to a tree's pages. It is known as a whole ahead of the first write, so that nothing has
// changed beside an error.
type change struct {
	g      *pages.Pages
	spare  []int // held pages on which nothing of the tree lies
	lack   int   // how many more of them would have been needed
	writes []write
	e      api.Errno
}

// fulfil does what is wished to the leaf at the end of the path, and tells whether the key was there.
func fulfil(g *pages.Pages, path []step, w wish) (bool, api.Errno) {
	_, was := path[len(path)-1].find(w.key)
	c := planned(g, path, w, nil)
	if c.e == api.OK && c.lack > 0 {
		fresh, e := allocate(g, c.lack)
		if e != api.OK {
			return false, e
		}
		// How many pages there are to take does not change what is done, but where it lies.
		c = planned(g, path, w, fresh)
	}
	if e := c.carryOut(); e != api.OK {
		return false, e
	}
	return was, api.OK
}

// allocate tells so many new pages, or none: it does not ask for one that may be refused.
func allocate(g *pages.Pages, many int) ([]int, api.Errno) {
	held, e := g.Held()
	if e != api.OK {
		return nil, e
	}
	if len(held)+many > enough {
		return nil, api.ErrLimit
	}
	var l []int
	for range many {
		n, e := g.Alloc()
		if e != api.OK {
			return nil, e
		}
		l = append(l, n)
	}
	return l, api.OK
}

// planned tells the change that fulfils the wish, with these pages to spare.
func planned(g *pages.Pages, path []step, w wish, spare []int) change {
	c := change{g: g}
	leaf := path[len(path)-1]
	i, was := leaf.find(w.key)
	behind := i
	if was {
		c.spare, _, c.e = record(g, leaf.cells[i])
		behind++
	}
	c.spare = append(c.spare, spare...)
	var cells [][]byte
	if !w.gone {
		cells = append(cells, c.store(w.key, w.data))
	}
	c.settle(path, slices.Concat(leaf.cells[:i], cells, leaf.cells[behind:]))
	return c
}

// store tells the cell by which the key holds data, and lays a long record on pages of its own.
func (c *change) store(key int64, data []byte) []byte {
	if len(data) <= short {
		return recordCell(key, len(data), data)
	}
	parts := slices.Collect(slices.Chunk(data, piece))
	at := make([]int, len(parts)+1)
	for i := range parts {
		at[i] = c.take()
	}
	for i, part := range parts {
		c.put(at[i], kindRest, at[i+1], [][]byte{part})
	}
	return recordCell(key, len(data), digits(uint64(at[0]), placeSize))
}

// settle gives the last knot of the path these cells, and changes what lies above it where it must.
func (c *change) settle(path []step, cells [][]byte) {
	level := len(path) - 1
up:
	x := path[level].knot
	if level == 0 {
		c.settleRoot(x, cells)
		return
	}
	above := path[level-1]
	some := c.gather(above, x, cells)
	if len(some.at) == len(above.cells) && node.Room(some.cells) >= 0 {
		// An only child is not left: what is above takes its place.
		c.put(above.at, x.kind, 0, some.cells)
		c.spare = append(c.spare, some.at...)
		return
	}
	forks := c.lay(x.kind, above.key(some.first), some)
	forks = slices.Concat(above.cells[:some.first], forks, above.cells[some.first+len(some.at):])
	if slices.EqualFunc(forks, above.cells, bytes.Equal) {
		return
	}
	cells = forks
	level--
	goto up
}

// settleRoot gives the root x these cells. If they are too many it goes on as a fork, since its number stays.
func (c *change) settleRoot(x knot, cells [][]byte) {
	if node.Room(cells) >= 0 {
		c.put(x.at, x.kind, 0, cells)
		return
	}
	c.put(x.at, kindFork, 0, c.lay(x.kind, math.MinInt64, group{cells: cells}))
}

// group is a knot's cells that are laid anew, or those of two neighbours.
type group struct {
	first int   // the cell above the first one
	at    []int // the pages
	cells [][]byte
}

// gather tells x with these cells, and, if they are thin, with its neighbour's.
func (c *change) gather(above step, x knot, cells [][]byte) group {
	i := above.i
	if !thin(cells) {
		return group{i, []int{x.at}, cells}
	}
	if i+1 < len(above.cells) {
		y := c.neighbour(above.child(i+1), x.kind)
		return group{i, []int{x.at, y.at}, slices.Concat(cells, y.cells)}
	}
	y := c.neighbour(above.child(i-1), x.kind)
	return group{i - 1, []int{y.at, x.at}, slices.Concat(y.cells, cells)}
}

// neighbour tells the knot on page at, which is to be of that kind.
func (c *change) neighbour(at, kind int) knot {
	x, e := load(c.g, at)
	if e == api.OK && x.kind != kind {
		e = api.ErrForm
	}
	c.fail(e)
	return x
}

// lay puts the group's cells on its pages, or on one more or less, and tells the cells above them, the first one with key.
func (c *change) lay(kind int, key int64, some group) [][]byte {
	c.spare = slices.Concat(some.at, c.spare)
	var forks [][]byte
	for i, part := range cut(some.cells) {
		if i > 0 {
			key = keyOf(part[0])
		}
		n := c.take()
		c.put(n, kind, 0, part)
		forks = append(forks, forkCell(key, n))
	}
	return forks
}

// take tells a page to put something on; 0, if there is none to spare.
func (c *change) take() int {
	if len(c.spare) == 0 {
		c.lack++
		return 0
	}
	n := c.spare[0]
	c.spare = c.spare[1:]
	return n
}

func (c *change) put(at, kind, next int, cells [][]byte) {
	p, e := node.Encode(kind, next, cells)
	c.fail(e)
	c.writes = append(c.writes, write{at, p})
}

// fail keeps the first error.
func (c *change) fail(e api.Errno) {
	if c.e == api.OK {
		c.e = e
	}
}

// carryOut does what was planned. Only the first of several writes may be refused: with it the pager has the right to the others.
func (c *change) carryOut() api.Errno {
	if c.e != api.OK {
		return c.e
	}
	for _, w := range c.writes {
		if e := c.g.Write(w.at, w.page); e != api.OK {
			return e
		}
	}
	return free(c.g, c.spare)
}

// free lets the pages go.
func free(g *pages.Pages, l []int) api.Errno {
	for _, n := range l {
		if e := g.Free(n); e != api.OK {
			return e
		}
	}
	return api.OK
}

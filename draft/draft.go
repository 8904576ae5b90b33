// Package draft: changes to pages (13) that are known as a whole ahead of the first write, so that nothing has changed beside
// an error; and the cells by which they hold bytes, a few or many. Trees (14) and indexes (15) are made of it.
package draft

import (
	"slices"

	"cadastre/api"
	"cadastre/node"
	"cadastre/pages"
)

// enough: Alloc may be told ErrLimit, once so many pages are held.
const enough = api.MaxPages - 42

// Draft is all that is to be done to a file's pages.
type Draft struct {
	g      *pages.Pages
	spare  []int // held pages on which nothing lies any more
	lack   int   // how many more of them would have been needed
	writes []write
	e      api.Errno
}

// write is a page that is to be written.
type write struct {
	at   int
	page []byte
}

// New holds a page, and puts no cells on it.
func New(g *pages.Pages, kind int) (int, api.Errno) {
	n, e := g.Alloc()
	if e != api.OK {
		return 0, e
	}
	p, e := node.Encode(kind, 0, nil)
	if e != api.OK {
		return 0, e
	}
	if e := g.Write(n, p); e != api.OK {
		return 0, e
	}
	return n, api.OK
}

// Do does what plan puts into a draft. If that lacks pages they are held, and plan is called once more: how many pages there
// are to take must not change what it does, but where it lies.
func Do(g *pages.Pages, plan func(d *Draft)) api.Errno {
	d := &Draft{g: g}
	plan(d)
	if d.e == api.OK && d.lack > 0 {
		fresh, e := allocate(g, d.lack)
		if e != api.OK {
			return e
		}
		d = &Draft{g: g, spare: fresh}
		plan(d)
	}
	return d.carryOut()
}

// allocate tells so many new pages, or none: it does not ask for one that may be refused.
func allocate(g *pages.Pages, many int) ([]int, api.Errno) {
	held, e := g.Held()
	if e != api.OK {
		return nil, e
	}
	if len(held)+many > enough {
		return nil, api.ErrLimit
	}
	var l []int
	for range many {
		n, e := g.Alloc()
		if e != api.OK {
			return nil, e
		}
		l = append(l, n)
	}
	return l, api.OK
}

// Take tells a page to put something on; 0, if there is none to spare.
func (d *Draft) Take() int {
	if len(d.spare) == 0 {
		d.lack++
		return 0
	}
	n := d.spare[0]
	d.spare = d.spare[1:]
	return n
}

// Give gives up pages: they are the next ones to be taken, or are freed.
func (d *Draft) Give(l ...int) { d.spare = slices.Concat(l, d.spare) }

// Put puts cells on page n.
func (d *Draft) Put(n, kind, next int, cells [][]byte) {
	p, e := node.Encode(kind, next, cells)
	d.Fail(e)
	d.writes = append(d.writes, write{n, p})
}

// Fail keeps the first error: with it nothing is done.
func (d *Draft) Fail(e api.Errno) {
	if d.e == api.OK {
		d.e = e
	}
}

// carryOut does what was planned. Only the first of several writes may be refused: with it the pager has the right to the others.
func (d *Draft) carryOut() api.Errno {
	if d.e != api.OK {
		return d.e
	}
	for _, w := range d.writes {
		if e := d.g.Write(w.at, w.page); e != api.OK {
			return e
		}
	}
	return Free(d.g, d.spare)
}

// Free lets the pages go.
func Free(g *pages.Pages, l []int) api.Errno {
	for _, n := range l {
		if e := g.Free(n); e != api.OK {
			return e
		}
	}
	return api.OK
}

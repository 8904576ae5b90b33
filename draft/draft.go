// Package draft: changes to pages (13) that are known as a whole ahead of the first write, so that nothing has changed beside
// an error; and the cells by which they hold bytes, a few or many. Trees (14), indexes (15) and trees of boxes (18) are made of
// it.
package draft

import (
	"slices"

	"cadastre/api"
	"cadastre/node"
	"cadastre/pages"
)

// enough: Alloc may be told ErrLimit, once so many pages are held.
const enough = api.MaxPages - 42

// Draft is all that is to be done to a file's pages. What it reads is as if that were done.
type Draft struct {
	g      *pages.Pages
	spare  []int // held pages on which nothing lies any more
	lack   int   // how many more of them would have been needed
	writes []write
	e      api.Errno
}

// write is a page that is to be written.
type write struct {
	at   int
	page []byte
}

// On tells a draft by which nothing is to be done yet.
func On(g *pages.Pages) *Draft { return &Draft{g: g} }

// Make does what plan puts into a draft, and tells what plan tells.
func Make[T any](g *pages.Pages, plan func(d *Draft) T) (T, api.Errno) {
	var told, none T
	if e := Do(g, func(d *Draft) { told = plan(d) }); e != api.OK {
		return none, e
	}
	return told, api.OK
}

// Do does what plan puts into a draft. If that lacks pages they are held, and plan is called once more: which pages there are to
// take must not change how many it takes.
func Do(g *pages.Pages, plan func(d *Draft)) api.Errno {
	d := On(g)
	plan(d)
	if d.e == api.OK && d.lack > 0 {
		fresh, e := allocate(g, d.lack)
		if e != api.OK {
			return e
		}
		d = &Draft{g: g, spare: fresh}
		plan(d)
	}
	return d.carryOut()
}

// allocate tells so many new pages, or none: it does not ask for one that may be refused.
func allocate(g *pages.Pages, many int) ([]int, api.Errno) {
	held, e := g.Held()
	if e != api.OK {
		return nil, e
	}
	if len(held)+many > enough {
		return nil, api.ErrLimit
	}
	var l []int
	for range many {
		n, e := g.Alloc()
		if e != api.OK {
			return nil, e
		}
		l = append(l, n)
	}
	return l, api.OK
}

// New puts no cells on a page, and tells it.
func (d *Draft) New(kind, next int) int {
	n := d.Take()
	d.Put(n, kind, next, nil)
	return n
}

// Take tells a page to put something on. If there is none to spare its number is one that no page has, as long as none is held
// in its place.
func (d *Draft) Take() int {
	if len(d.spare) == 0 {
		d.lack++
		return api.MaxPages - 1 + d.lack
	}
	n := d.spare[0]
	d.spare = d.spare[1:]
	return n
}

// Give gives up pages: they are the next ones to be taken, or are freed.
func (d *Draft) Give(l ...int) { d.spare = slices.Concat(l, d.spare) }

// Put puts cells on page n.
func (d *Draft) Put(n, kind, next int, cells [][]byte) {
	p, e := node.Encode(kind, next, cells)
	d.Fail(e)
	d.writes = slices.DeleteFunc(d.writes, func(w write) bool { return w.at == n })
	d.writes = append(d.writes, write{n, p})
}

// Load tells the kind, the next and the cells of page n.
func (d *Draft) Load(n int) (kind, next int, cells [][]byte, e api.Errno) {
	for _, w := range d.writes {
		if w.at == n {
			return node.Decode(w.page)
		}
	}
	p, e := d.g.Read(n)
	if e != api.OK {
		return 0, 0, nil, e
	}
	return node.Decode(p)
}

// Fail keeps the first error: with it nothing is done.
func (d *Draft) Fail(e api.Errno) {
	if d.e == api.OK {
		d.e = e
	}
}

// carryOut does what was planned. Only the first of several writes may be refused: with it the pager has the right to the others.
func (d *Draft) carryOut() api.Errno {
	if d.e != api.OK {
		return d.e
	}
	for _, w := range d.writes {
		if e := d.g.Write(w.at, w.page); e != api.OK {
			return e
		}
	}
	return Free(d.g, d.spare)
}

// Free lets the pages go.
func Free(g *pages.Pages, l []int) api.Errno {
	for _, n := range l {
		if e := g.Free(n); e != api.OK {
			return e
		}
	}
	return api.OK
}

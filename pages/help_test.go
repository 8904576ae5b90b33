package pages

import (
	"bytes"
	"slices"
	"testing"

	"cadastre/api"
	"cadastre/disk"
	"cadastre/locks"
	"cadastre/pager"
)

// enough: Alloc may be told ErrLimit only if so many pages or more are held.
const enough = api.MaxPages - 42

// atMost tells how many pages the pager may have, if never more than most were held at once.
func atMost(most int) int { return most + 1 + most/100 }

func newDisk(t *testing.T, files []api.File, troubles ...api.Trouble) *disk.Disk {
	t.Helper()
	d, e := disk.New(files, troubles)
	if e != api.OK {
		t.Fatalf("disk.New: %v", e)
	}
	return d
}

func open(t *testing.T, d *disk.Disk, mode int, l *locks.Table, c int) *pager.Pager {
	t.Helper()
	p, e := pager.Open(d, mode, l, c)
	if e != api.OK {
		t.Fatalf("Open: %v", e)
	}
	return p
}

// over tells a file of pages within a transaction over a base of these bytes.
func over(t *testing.T, data []byte) (*Pages, *pager.Pager) {
	t.Helper()
	var files []api.File
	if len(data) > 0 {
		files = []api.File{{Name: "base", Data: data}}
	}
	p := open(t, newDisk(t, files), api.ModeJournal, locks.New(), 0)
	want(t, "Begin", p.Begin(), api.OK)
	return New(p), p
}

func want(t *testing.T, what string, got, wanted api.Errno) {
	t.Helper()
	if got != wanted {
		t.Fatalf("%s: told %v, want %v", what, got, wanted)
	}
}

// page tells a page full of c.
func page(c byte) []byte { return bytes.Repeat([]byte{c}, api.PageSize) }

func noughts() []byte { return make([]byte, api.PageSize) }

func alloc(t *testing.T, g *Pages) int {
	t.Helper()
	n, e := g.Alloc()
	if e != api.OK || n < 1 || n >= api.MaxPages {
		t.Fatalf("Alloc: %d, %v", n, e)
	}
	return n
}

// allocMany tells so many new pages, rising.
func allocMany(t *testing.T, g *Pages, many int) []int {
	t.Helper()
	var l []int
	for range many {
		l = append(l, alloc(t, g))
	}
	slices.Sort(l)
	return l
}

func wantHeld(t *testing.T, g *Pages, wanted []int) {
	t.Helper()
	l, e := g.Held()
	if e != api.OK || !slices.Equal(l, wanted) {
		t.Fatalf("Held: %d of them, %v, want %d: %v, want %v", len(l), e, len(wanted), l, wanted)
	}
}

func wantRoots(t *testing.T, g *Pages, wanted [8]int) {
	t.Helper()
	for i, w := range wanted {
		if n, e := g.Root(i); e != api.OK || n != w {
			t.Fatalf("Root %d: %d, %v, want %d", i, n, e, w)
		}
	}
}

func wantPage(t *testing.T, g *Pages, n int, wanted []byte) {
	t.Helper()
	if b, e := g.Read(n); e != api.OK || !bytes.Equal(b, wanted) {
		t.Fatalf("Read %d: %x, %v, want %x", n, b, e, wanted)
	}
}

// image tells all bytes of p's pages.
func image(t *testing.T, p *pager.Pager) []byte {
	t.Helper()
	var l []byte
	for n := range p.Count() {
		b, e := p.Read(n)
		want(t, "pager.Read", e, api.OK)
		l = append(l, b...)
	}
	return l
}

// told is what one call answered.
type told struct {
	name string
	e    api.Errno
	zero bool // whether all else is the zero value
}

// all calls everything of g with a page that may be held, and with what is wrong of itself.
func all(g *Pages, n int) []told {
	var l []told
	add := func(name string, e api.Errno, zero bool) { l = append(l, told{name, e, zero}) }
	a, e := g.Alloc()
	add("Alloc", e, a == 0)
	h, e := g.Held()
	add("Held", e, len(h) == 0)
	for _, i := range []int{0, 7, 8, -1} {
		r, e := g.Root(i)
		add("Root", e, r == 0)
		add("SetRoot", g.SetRoot(i, 1), true)
		add("SetRoot", g.SetRoot(i, -1), true)
	}
	for _, i := range []int{n, 0, -1, api.MaxPages} {
		b, e := g.Read(i)
		add("Read", e, len(b) == 0)
		add("Write", g.Write(i, noughts()), true)
		add("Write", g.Write(i, nil), true)
		add("Free", g.Free(i), true)
	}
	return l
}

// wantAll asks that every call tells the error, and nothing beside it.
func wantAll(t *testing.T, g *Pages, n int, e api.Errno) {
	t.Helper()
	for _, x := range all(g, n) {
		if x.e != e || !x.zero {
			t.Fatalf("%s: told %v (nothing beside it: %v), want %v", x.name, x.e, x.zero, e)
		}
	}
}

package rtree

import (
	"maps"
	"slices"
	"testing"

	"cadastre/api"
	"cadastre/box"
	"cadastre/disk"
	"cadastre/locks"
	"cadastre/pager"
	"cadastre/pages"
)

func newDisk(t *testing.T, files []api.File, troubles ...api.Trouble) *disk.Disk {
	t.Helper()
	d, e := disk.New(files, troubles)
	want(t, "disk.New", e, api.OK)
	return d
}

func open(t *testing.T, d *disk.Disk, mode int, l *locks.Table, c int) *pager.Pager {
	t.Helper()
	p, e := pager.Open(d, mode, l, c)
	want(t, "Open", e, api.OK)
	return p
}

// fresh tells a file of pages on a disk of its own, within a transaction.
func fresh(t *testing.T) (*pages.Pages, *pager.Pager) {
	t.Helper()
	p := open(t, newDisk(t, nil), api.ModeJournal, locks.New(), 0)
	want(t, "Begin", p.Begin(), api.OK)
	return pages.New(p), p
}

func want(t *testing.T, what string, got, wanted api.Errno) {
	t.Helper()
	if got != wanted {
		t.Fatalf("%s: told %v, want %v", what, got, wanted)
	}
}

func create(t *testing.T, g *pages.Pages) int {
	t.Helper()
	root, e := Create(g)
	want(t, "Create", e, api.OK)
	return root
}

func held(t *testing.T, g *pages.Pages) []int {
	t.Helper()
	l, e := g.Held()
	want(t, "Held", e, api.OK)
	return l
}

func ownPages(t *testing.T, g *pages.Pages, root int) []int {
	t.Helper()
	l, e := Pages(g, root)
	want(t, "Pages", e, api.OK)
	return l
}

// image tells all bytes of p's pages.
func image(t *testing.T, p *pager.Pager) []byte {
	t.Helper()
	var l []byte
	for n := range p.Count() {
		b, e := p.Read(n)
		want(t, "pager.Read", e, api.OK)
		l = append(l, b...)
	}
	return l
}

// fill holds pages until no more than left could be held without ErrLimit, by what chapter 13 says.
func fill(t *testing.T, g *pages.Pages, left int) {
	t.Helper()
	for range api.MaxPages - 42 - left - len(held(t, g)) {
		_, e := g.Alloc()
		want(t, "Alloc", e, api.OK)
	}
}

// mk tells the box from x0 + y0 i to x1 + y1 i.
func mk(x0, x1, y0, y1 int64) api.Box {
	b, e := box.Make(x0, x1, y0, y1)
	if e != api.OK {
		panic(e)
	}
	return b
}

// dot tells a box that is one point.
func dot(x, y int64) api.Box { return mk(x, x, y, y) }

// meets is the model's own word for it: no side of one lies beyond the other.
func meets(a, b api.Box) bool {
	return !(real(a.Hi) < real(b.Lo) || real(b.Hi) < real(a.Lo) || imag(a.Hi) < imag(b.Lo) || imag(b.Hi) < imag(a.Lo))
}

// model is what the chapter says of a tree of boxes.
type model map[int64]api.Box

func (m model) ids() []int64 { return slices.Sorted(maps.Keys(m)) }

// entries tells those whose boxes are taken, by rising ID.
func (m model) entries(taken func(b api.Box) bool) []api.Entry {
	var l []api.Entry
	for _, id := range m.ids() {
		if taken(m[id]) {
			l = append(l, api.Entry{ID: id, Box: m[id]})
		}
	}
	return l
}

func (m model) put(t *testing.T, g *pages.Pages, root int, id int64, b api.Box) {
	t.Helper()
	_, there := m[id]
	if was, e := Put(g, root, id, b); was != there || e != api.OK {
		t.Fatalf("Put %d, %v: %v, %v, want %v", id, b, was, e, there)
	}
	m[id] = b
}

func (m model) delete(t *testing.T, g *pages.Pages, root int, id int64) {
	t.Helper()
	_, there := m[id]
	if was, e := Delete(g, root, id); was != there || e != api.OK {
		t.Fatalf("Delete %d: %v, %v, want %v", id, was, e, there)
	}
	delete(m, id)
}

func (m model) wantGet(t *testing.T, g *pages.Pages, root int, id int64) {
	t.Helper()
	wanted, there := m[id]
	if b, got, e := Get(g, root, id); e != api.OK || got != there || b != wanted {
		t.Fatalf("Get %d: %v, %v, %v, want %v, %v", id, b, got, e, wanted, there)
	}
}

func (m model) wantFind(t *testing.T, g *pages.Pages, root int, b api.Box) {
	t.Helper()
	wanted := m.entries(func(x api.Box) bool { return meets(x, b) })
	if l, e := Find(g, root, b); e != api.OK || !slices.Equal(l, wanted) {
		t.Fatalf("Find %v: %v, %v, want %v", b, l, e, wanted)
	}
}

// wantWhole asks that the tree holds just what the model does, in leaves that are neither too short nor too long.
func (m model) wantWhole(t *testing.T, g *pages.Pages, root int) {
	t.Helper()
	wanted := m.entries(func(api.Box) bool { return true })
	if l, e := Dump(g, root); e != api.OK || !slices.Equal(l, wanted) {
		t.Fatalf("Dump: %d entries, %v, want %d", len(l), e, len(wanted))
	}
	leaves, e := Leaves(g, root)
	want(t, "Leaves", e, api.OK)
	for _, l := range leaves {
		if len(l) == 0 || len(l) > api.Fan || len(leaves) > 1 && len(l) < api.FanLow {
			t.Fatalf("%d leaves, one of %d", len(leaves), len(l))
		}
	}
	all := slices.Concat(leaves...)
	slices.SortFunc(all, func(x, y api.Entry) int {
		if x.ID < y.ID {
			return -1
		}
		return 1
	})
	if !slices.Equal(all, wanted) {
		t.Fatalf("Leaves: %d entries, want %d", len(all), len(wanted))
	}
}

// wantApart asks that each held page is one tree's alone.
func wantApart(t *testing.T, g *pages.Pages, roots []int) {
	t.Helper()
	var l []int
	for _, root := range roots {
		own := ownPages(t, g, root)
		if !slices.IsSorted(own) || !slices.Contains(own, root) {
			t.Fatalf("%d: %v", root, own)
		}
		l = append(l, own...)
	}
	slices.Sort(l)
	if !slices.Equal(l, held(t, g)) {
		t.Fatalf("%v, held %v", l, held(t, g))
	}
}

// told is what one call answered.
type told struct {
	name string
	e    api.Errno
	zero bool // whether all else is the zero value
}

// looks calls everything that changes nothing.
func looks(g *pages.Pages, root int, id int64) []told {
	var l []told
	add := func(name string, e api.Errno, zero bool) { l = append(l, told{name, e, zero}) }
	b, there, e := Get(g, root, id)
	add("Get", e, b == api.Box{} && !there)
	for _, b := range []api.Box{dot(0, 0), mk(-50, 60, -7, 900)} {
		found, e := Find(g, root, b)
		add("Find", e, found == nil)
	}
	at, e := Pages(g, root)
	add("Pages", e, at == nil)
	all, e := Dump(g, root)
	add("Dump", e, all == nil)
	leaves, e := Leaves(g, root)
	add("Leaves", e, leaves == nil)
	return l
}

// changes calls everything that changes something, if it is not refused.
func changes(g *pages.Pages, root int, id int64) []told {
	var l []told
	add := func(name string, e api.Errno, zero bool) { l = append(l, told{name, e, zero}) }
	for _, b := range []api.Box{dot(0, 0), mk(3, 9, -20, 4)} {
		was, e := Put(g, root, id, b)
		add("Put", e, !was)
	}
	was, e := Delete(g, root, id)
	add("Delete", e, !was)
	add("Drop", Drop(g, root), true)
	return l
}

// all calls everything.
func all(g *pages.Pages, root int, id int64) []told {
	n, e := Create(g)
	return slices.Concat(looks(g, root, id), changes(g, root, id), []told{{"Create", e, n == 0}})
}

// wantAll asks that every call tells the error, and nothing beside it.
func wantAll(t *testing.T, calls []told, e api.Errno) {
	t.Helper()
	for _, x := range calls {
		if x.e != e || !x.zero {
			t.Fatalf("%s: told %v (nothing beside it: %v), want %v", x.name, x.e, x.zero, e)
		}
	}
}

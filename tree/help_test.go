package tree

import (
	"bytes"
	"maps"
	"slices"
	"testing"

	"cadastre/api"
	"cadastre/disk"
	"cadastre/draft"
	"cadastre/locks"
	"cadastre/pager"
	"cadastre/pages"
)

// How many bytes lie, by package draft.
const (
	short    = draft.Short
	piece    = draft.Piece
	kindRest = draft.KindPiece
)

// How knots lie, by package rows.
const (
	kindLeaf = 1
	kindFork = 2
	keySize  = 8
)

// forkCell tells a fork's cell.
func forkCell(key int64, at int) []byte {
	return slices.Concat(draft.Digits(uint64(key), keySize), draft.Digits(uint64(at), 2))
}

// levels tells how many knots lie on a way down.
func levels(t *testing.T, g *pages.Pages, root int) int {
	t.Helper()
	for n := 1; ; n++ {
		kind, _, cells, e := draft.On(g).Load(root)
		if want(t, "Load", e, api.OK); kind == kindLeaf {
			return n
		}
		root = int(draft.Number(cells[len(cells)/2][keySize:]))
	}
}

// recordCell tells a leaf's cell: tail is the bytes themselves, or the page of their first piece.
func recordCell(key int64, length int, tail []byte) []byte {
	return slices.Concat(draft.Digits(uint64(key), keySize), draft.Digits(uint64(length), 2), tail)
}

func newDisk(t *testing.T, files []api.File, troubles ...api.Trouble) *disk.Disk {
	t.Helper()
	d, e := disk.New(files, troubles)
	if e != api.OK {
		t.Fatalf("disk.New: %v", e)
	}
	return d
}

func open(t *testing.T, d *disk.Disk, mode int, l *locks.Table, c int) *pager.Pager {
	t.Helper()
	p, e := pager.Open(d, mode, l, c)
	if e != api.OK {
		t.Fatalf("Open: %v", e)
	}
	return p
}

// fresh tells a file of pages on a disk of its own, within a transaction.
func fresh(t *testing.T) (*pages.Pages, *pager.Pager) {
	t.Helper()
	p := open(t, newDisk(t, nil), api.ModeJournal, locks.New(), 0)
	want(t, "Begin", p.Begin(), api.OK)
	return pages.New(p), p
}

func want(t *testing.T, what string, got, wanted api.Errno) {
	t.Helper()
	if got != wanted {
		t.Fatalf("%s: told %v, want %v", what, got, wanted)
	}
}

// filled tells n bytes that begin with c, no two pieces of them alike.
func filled(c, n int) []byte {
	b := make([]byte, n)
	for i := range b {
		b[i] = byte(c + i + i/251)
	}
	return b
}

func create(t *testing.T, g *pages.Pages) int {
	t.Helper()
	root, e := Create(g)
	want(t, "Create", e, api.OK)
	return root
}

func held(t *testing.T, g *pages.Pages) []int {
	t.Helper()
	l, e := g.Held()
	want(t, "Held", e, api.OK)
	return l
}

func ownPages(t *testing.T, g *pages.Pages, root int) []int {
	t.Helper()
	l, e := Pages(g, root)
	want(t, "Pages", e, api.OK)
	return l
}

// image tells all bytes of p's pages.
func image(t *testing.T, p *pager.Pager) []byte {
	t.Helper()
	var l []byte
	for n := range p.Count() {
		b, e := p.Read(n)
		want(t, "pager.Read", e, api.OK)
		l = append(l, b...)
	}
	return l
}

// fill holds pages until no more than left could be held without ErrLimit, by what chapter 13 says.
func fill(t *testing.T, g *pages.Pages, left int) {
	t.Helper()
	for range api.MaxPages - 42 - left - len(held(t, g)) {
		_, e := g.Alloc()
		want(t, "Alloc", e, api.OK)
	}
}

// model is what the chapter says of a tree.
type model map[int64][]byte

func (m model) keys() []int64 { return slices.Sorted(maps.Keys(m)) }

// next tells what Next does.
func (m model) next(key int64, from bool) (int64, bool) {
	for _, k := range m.keys() {
		if k > key || from && k == key {
			return k, true
		}
	}
	return 0, false
}

func (m model) put(t *testing.T, g *pages.Pages, root int, key int64, data []byte) {
	t.Helper()
	_, there := m[key]
	if was, e := Put(g, root, key, data); was != there || e != api.OK {
		t.Fatalf("Put %d, %d bytes: %v, %v, want %v", key, len(data), was, e, there)
	}
	m[key] = data
}

func (m model) delete(t *testing.T, g *pages.Pages, root int, key int64) {
	t.Helper()
	_, there := m[key]
	if was, e := Delete(g, root, key); was != there || e != api.OK {
		t.Fatalf("Delete %d: %v, %v, want %v", key, was, e, there)
	}
	delete(m, key)
}

// wantDump asks that the tree holds just what the model does.
func (m model) wantDump(t *testing.T, g *pages.Pages, root int) {
	t.Helper()
	keys, data, e := Dump(g, root)
	if e != api.OK || len(keys) != len(data) || !slices.Equal(keys, m.keys()) {
		t.Fatalf("Dump: %d keys, %d data, %v, want %d", len(keys), len(data), e, len(m))
	}
	for i, k := range keys {
		if !bytes.Equal(data[i], m[k]) {
			t.Fatalf("Dump: %d holds %d bytes, want %d", k, len(data[i]), len(m[k]))
		}
	}
}

func (m model) wantGet(t *testing.T, g *pages.Pages, root int, key int64) {
	t.Helper()
	wanted, there := m[key]
	data, got, e := Get(g, root, key)
	if e != api.OK || got != there || !bytes.Equal(data, wanted) || !there && data != nil {
		t.Fatalf("Get %d: %d bytes, %v, %v, want %d, %v", key, len(data), got, e, len(wanted), there)
	}
}

func (m model) wantNext(t *testing.T, g *pages.Pages, root int, key int64, from bool) {
	t.Helper()
	wanted, there := m.next(key, from)
	k, data, got, e := Next(g, root, key, from)
	if e != api.OK || got != there || k != wanted || !bytes.Equal(data, m[wanted]) && there || !there && data != nil {
		t.Fatalf("Next %d, %v: %d, %d bytes, %v, %v, want %d, %v", key, from, k, len(data), got, e, wanted, there)
	}
}

// wantAbout asks for key and those beside it by all calls that change nothing.
func (m model) wantAbout(t *testing.T, g *pages.Pages, root int, key int64) {
	t.Helper()
	for _, k := range []int64{key - 1, key, key + 1} {
		m.wantGet(t, g, root, k)
		m.wantNext(t, g, root, k, true)
		m.wantNext(t, g, root, k, false)
	}
}

// told is what one call answered.
type told struct {
	name string
	e    api.Errno
	zero bool // whether all else is the zero value
}

// looks calls everything that changes nothing.
func looks(g *pages.Pages, root int, key int64) []told {
	var l []told
	add := func(name string, e api.Errno, zero bool) { l = append(l, told{name, e, zero}) }
	data, there, e := Get(g, root, key)
	add("Get", e, data == nil && !there)
	for _, from := range []bool{false, true} {
		k, data, there, e := Next(g, root, key, from)
		add("Next", e, k == 0 && data == nil && !there)
	}
	at, e := Pages(g, root)
	add("Pages", e, at == nil)
	keys, list, e := Dump(g, root)
	add("Dump", e, keys == nil && list == nil)
	return l
}

// changes calls everything that changes something, if it is not refused.
func changes(g *pages.Pages, root int, key int64) []told {
	var l []told
	add := func(name string, e api.Errno, zero bool) { l = append(l, told{name, e, zero}) }
	was, e := Put(g, root, key, []byte("x"))
	add("Put", e, !was)
	was, e = Put(g, root, key, filled(1, 1000))
	add("Put", e, !was)
	was, e = Delete(g, root, key)
	add("Delete", e, !was)
	add("Drop", Drop(g, root), true)
	return l
}

// all calls everything.
func all(g *pages.Pages, root int, key int64) []told {
	n, e := Create(g)
	return slices.Concat(looks(g, root, key), changes(g, root, key), []told{{"Create", e, n == 0}})
}

// wantAll asks that every call tells the error, and nothing beside it.
func wantAll(t *testing.T, calls []told, e api.Errno) {
	t.Helper()
	for _, x := range calls {
		if x.e != e || !x.zero {
			t.Fatalf("%s: told %v (nothing beside it: %v), want %v", x.name, x.e, x.zero, e)
		}
	}
}

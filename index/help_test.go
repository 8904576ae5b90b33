package index

import (
	"cmp"
	"slices"
	"strings"
	"testing"

	"cadastre/api"
	"cadastre/disk"
	"cadastre/draft"
	"cadastre/locks"
	"cadastre/pager"
	"cadastre/pages"
	"cadastre/record"
)

func newDisk(t *testing.T, files []api.File, troubles ...api.Trouble) *disk.Disk {
	t.Helper()
	d, e := disk.New(files, troubles)
	if e != api.OK {
		t.Fatalf("disk.New: %v", e)
	}
	return d
}

func open(t *testing.T, d *disk.Disk, mode int, l *locks.Table, c int) *pager.Pager {
	t.Helper()
	p, e := pager.Open(d, mode, l, c)
	if e != api.OK {
		t.Fatalf("Open: %v", e)
	}
	return p
}

// fresh tells a file of pages on a disk of its own, within a transaction.
func fresh(t *testing.T) (*pages.Pages, *pager.Pager) {
	t.Helper()
	p := open(t, newDisk(t, nil), api.ModeJournal, locks.New(), 0)
	want(t, "Begin", p.Begin(), api.OK)
	return pages.New(p), p
}

func want(t *testing.T, what string, got, wanted api.Errno) {
	t.Helper()
	if got != wanted {
		t.Fatalf("%s: told %v, want %v", what, got, wanted)
	}
}

func in(n int64) api.Value { return api.Value{Kind: api.KindInt, Int: n} }

func tx(s string) api.Value { return api.Value{Kind: api.KindText, Str: s} }

func bl(s string) api.Value { return api.Value{Kind: api.KindBlob, Str: s} }

func null() api.Value { return api.Value{} }

func key(l ...api.Value) []api.Value { return l }

// long tells a key whose record has so many bytes, at least 11; those of the same size rise with n.
func long(size int, n int64) []api.Value {
	// How many there are, and an integer of 8 bytes with its type.
	k, left := key(in(n<<40+1<<38)), size-10
	for left > 4000 {
		k, left = append(k, tx(strings.Repeat("y", 2998))), left-3000
	}
	if left == 59 {
		// A text of 57 bytes has a type of one byte, one of 58 a type of two.
		k, left = append(k, tx("")), left-1
	}
	if left > 59 {
		return append(k, bl(strings.Repeat("x", left-2)))
	}
	return append(k, bl(strings.Repeat("x", left-1)))
}

// size tells how many bytes a key's record has.
func size(t *testing.T, k []api.Value) int {
	t.Helper()
	b, e := record.Encode(k)
	want(t, "Encode", e, api.OK)
	return len(b)
}

func create(t *testing.T, g *pages.Pages) int {
	t.Helper()
	root, e := Create(g)
	want(t, "Create", e, api.OK)
	return root
}

func held(t *testing.T, g *pages.Pages) []int {
	t.Helper()
	l, e := g.Held()
	want(t, "Held", e, api.OK)
	return l
}

func ownPages(t *testing.T, g *pages.Pages, root int) []int {
	t.Helper()
	l, e := Pages(g, root)
	want(t, "Pages", e, api.OK)
	return l
}

// levels tells how many levels of knots an index has.
func levels(t *testing.T, g *pages.Pages, root int) int {
	t.Helper()
	path, _, e := down(g, root, nil)
	want(t, "down", e, api.OK)
	return len(path)
}

// image tells all bytes of p's pages.
func image(t *testing.T, p *pager.Pager) []byte {
	t.Helper()
	var l []byte
	for n := range p.Count() {
		b, e := p.Read(n)
		want(t, "pager.Read", e, api.OK)
		l = append(l, b...)
	}
	return l
}

// fill holds pages until no more than left could be held without ErrLimit, by what chapter 13 says.
func fill(t *testing.T, g *pages.Pages, left int) {
	t.Helper()
	for range api.MaxPages - 42 - left - len(held(t, g)) {
		_, e := g.Alloc()
		want(t, "Alloc", e, api.OK)
	}
}

// order tells how a stands to b, by the words of the chapters 2 and 7.
func order(a, b []api.Value) int {
	return slices.CompareFunc(a, b, func(v, w api.Value) int {
		return cmp.Or(cmp.Compare(v.Kind, w.Kind), cmp.Compare(v.Int, w.Int), strings.Compare(v.Str, w.Str))
	})
}

// model is what the chapter says of an index: its keys, rising.
type model struct {
	l [][]api.Value
}

func (m *model) find(k []api.Value) (int, bool) { return slices.BinarySearchFunc(m.l, k, order) }

func (m *model) clone() *model { return &model{slices.Clone(m.l)} }

func (m *model) put(t *testing.T, g *pages.Pages, root int, k []api.Value) {
	t.Helper()
	i, there := m.find(k)
	if was, e := Put(g, root, k); was != there || e != api.OK {
		t.Fatalf("Put %.50v: %v, %v, want %v", k, was, e, there)
	}
	if !there {
		m.l = slices.Insert(m.l, i, k)
	}
}

func (m *model) delete(t *testing.T, g *pages.Pages, root int, k []api.Value) {
	t.Helper()
	i, there := m.find(k)
	if was, e := Delete(g, root, k); was != there || e != api.OK {
		t.Fatalf("Delete %.50v: %v, %v, want %v", k, was, e, there)
	}
	if there {
		m.l = slices.Delete(m.l, i, i+1)
	}
}

// deleteAll asks that all goes, and that no more than two pages are left.
func (m *model) deleteAll(t *testing.T, g *pages.Pages, root int) {
	t.Helper()
	for len(m.l) > 0 {
		m.delete(t, g, root, m.l[len(m.l)*7919%1009%len(m.l)])
	}
	m.wantDump(t, g, root)
	if l := ownPages(t, g, root); len(l) > 2 {
		t.Fatalf("%v left", l)
	}
}

// wantDump asks that the index holds just what the model does.
func (m *model) wantDump(t *testing.T, g *pages.Pages, root int) {
	t.Helper()
	l, e := Dump(g, root)
	if e != api.OK || !slices.EqualFunc(l, m.l, slices.Equal[[]api.Value]) {
		t.Fatalf("Dump: %d keys, %v, want %d", len(l), e, len(m.l))
	}
}

// wantAbout asks for k by all calls that change nothing.
func (m *model) wantAbout(t *testing.T, g *pages.Pages, root int, k []api.Value) {
	t.Helper()
	i, there := m.find(k)
	if got, e := Has(g, root, k); got != there || e != api.OK {
		t.Fatalf("Has %.50v: %v, %v, want %v", k, got, e, there)
	}
	m.wantNext(t, g, root, k, true, i)
	if there {
		i++
	}
	m.wantNext(t, g, root, k, false, i)
}

// wantNext asks that Next tells the model's key i.
func (m *model) wantNext(t *testing.T, g *pages.Pages, root int, k []api.Value, from bool, i int) {
	t.Helper()
	n, got, e := Next(g, root, k, from)
	if e != api.OK || got != (i < len(m.l)) || got && !slices.Equal(n, m.l[i]) || !got && n != nil {
		t.Fatalf("Next %.50v, %v: %.50v, %v, %v", k, from, n, got, e)
	}
}

// told is what one call answered.
type told struct {
	name string
	e    api.Errno
	zero bool // whether all else is the zero value
}

// looks calls everything that changes nothing.
func looks(g *pages.Pages, root int, k []api.Value) []told {
	var l []told
	add := func(name string, e api.Errno, zero bool) { l = append(l, told{name, e, zero}) }
	there, e := Has(g, root, k)
	add("Has", e, !there)
	for _, from := range []bool{false, true} {
		n, there, e := Next(g, root, k, from)
		add("Next", e, n == nil && !there)
	}
	return append(l, wholes(g, root)...)
}

// wholes calls what goes through a whole index.
func wholes(g *pages.Pages, root int) []told {
	at, e := Pages(g, root)
	list, f := Dump(g, root)
	return []told{{"Pages", e, at == nil}, {"Dump", f, list == nil}}
}

// changes calls everything that changes something, if it is not refused: k is to be there, or not to be there.
func changes(g *pages.Pages, root int, k []api.Value, there bool) []told {
	var l []told
	if there {
		was, e := Delete(g, root, k)
		l = append(l, told{"Delete", e, !was})
	} else {
		was, e := Put(g, root, k)
		l = append(l, told{"Put", e, !was})
	}
	return append(l, told{"Drop", Drop(g, root), true})
}

// all calls everything.
func all(g *pages.Pages, root int, k []api.Value) []told {
	n, e := Create(g)
	l := slices.Concat(looks(g, root, k), changes(g, root, k, false), changes(g, root, k, true))
	return append(l, told{"Create", e, n == 0})
}

// wantAll asks that every call tells the error, and nothing beside it.
func wantAll(t *testing.T, calls []told, e api.Errno) {
	t.Helper()
	for _, x := range calls {
		if x.e != e || !x.zero {
			t.Fatalf("%s: told %v (nothing beside it: %v), want %v", x.name, x.e, x.zero, e)
		}
	}
}

// wantApart asks that the indexes' pages are just the held ones, each of one index.
func wantApart(t *testing.T, g *pages.Pages, roots []int) {
	t.Helper()
	var all []int
	for _, root := range roots {
		l := ownPages(t, g, root)
		if !slices.IsSorted(l) || !slices.Contains(l, root) {
			t.Fatalf("Pages %d: %v", root, l)
		}
		all = append(all, l...)
	}
	slices.Sort(all)
	if !slices.Equal(all, held(t, g)) {
		t.Fatalf("%v, held %v", all, held(t, g))
	}
}

// sizes are those of records at the edges of how they lie, and of what is allowed.
func sizes() []int {
	const short, piece = draft.Short, draft.Piece
	return []int{30, 60, short - 1, short, short + 1, 250, piece - 1, piece, piece + 1, 2*piece - 1, 2 * piece, 2*piece + 1,
		3 * piece, 12000, 32*piece - 1, 32 * piece, 32*piece + 1, api.MaxRecord - 1, api.MaxRecord}
}

package rtree

import (
	"bytes"
	"fmt"
	"math"
	"math/rand"
	"slices"
	"testing"

	"cadastre/api"
	"cadastre/draft"
	"cadastre/node"
	"cadastre/pager"
	"cadastre/pages"
	"cadastre/tree"
)

// everything calls all of it, so that it ends and does not panic, whatever is told.
func everything(g *pages.Pages, root int) {
	for _, id := range []int64{math.MinInt64, -1, 0, 1, 5, 50, math.MaxInt64} {
		looks(g, root, id)
		Put(g, root, id, dot(id%50, 3))
		Put(g, root, id, mk(-api.Coord, api.Coord-1, -5, 5))
		Find(g, root, mk(-api.Coord, api.Coord-1, -api.Coord, api.Coord-1))
		Delete(g, root, id)
	}
	Drop(g, root)
}

// What is not held is no root.
func TestNotHeld(t *testing.T) {
	g, _ := fresh(t)
	root, m := some(t, g, 20)
	for _, n := range []int{0, -1, 77, api.MaxPages - 1, api.MaxPages, api.MaxPages + root, math.MaxInt, math.MinInt} {
		wantAll(t, looks(g, n, 1), api.ErrForm)
		wantAll(t, changes(g, n, 1), api.ErrForm)
	}
	m.wantWhole(t, g, root)
}

// No other page of a tree of boxes is a root, nor is that of a tree of rows.
func TestOtherPages(t *testing.T) {
	g, _ := fresh(t)
	root, m := some(t, g, 100)
	rows, e := tree.Create(g)
	want(t, "tree.Create", e, api.OK)
	for _, at := range append(ownPages(t, g, root), rows) {
		if at != root {
			wantAll(t, looks(g, at, 1), api.ErrForm)
			wantAll(t, changes(g, at, 1), api.ErrForm)
		}
	}
	m.wantWhole(t, g, root)
}

// Pages of noughts and of any bytes are no roots; every call ends.
func TestAnyBytes(t *testing.T) {
	g, p := fresh(t)
	root, m := some(t, g, 30)
	n, e := g.Alloc()
	want(t, "Alloc", e, api.OK)
	mark, _ := p.Mark()
	r := rand.New(rand.NewSource(1))
	for k := range 2000 {
		b := make([]byte, api.PageSize)
		if k > 0 {
			r.Read(b)
		}
		if k > 1000 {
			// A head that may be one, and places that are some.
			b[0], b[1], b[2] = byte(5+r.Intn(4)), 0, byte(r.Intn(4))
			clear(b[3:6])
			b[6] = byte(r.Intn(n + 2))
			for i := 7; i < 16; i += 2 {
				b[i], b[i+1] = byte(r.Intn(2)), byte(r.Intn(256))
			}
			for i := 16; i < len(b); i++ {
				b[i] = []byte{0, 0, 0, 24, 24, 1, 2, 3}[r.Intn(8)]
			}
		}
		want(t, "Write", g.Write(n, b), api.OK)
		_, e := Pages(g, n)
		_, f := Dump(g, n)
		if e != f || e != api.OK && e != api.ErrForm || k <= 1000 && e == api.OK {
			t.Errorf("%x: %v, %v", b, e, f)
		}
		everything(g, n)
		want(t, "Back", p.Back(mark), api.OK)
	}
	m.wantWhole(t, g, root)
}

// sketch is a tree that is laid by hand: pages by their numbers, of which 1 is the root and 2 the directory.
type sketch struct {
	t *testing.T
	g *pages.Pages
}

func newSketch(t *testing.T) sketch {
	t.Helper()
	g, _ := fresh(t)
	for n := 1; n < 50; n++ {
		at, e := g.Alloc()
		if e != api.OK || at != n {
			t.Fatalf("Alloc: %d, %v", at, e)
		}
	}
	return sketch{t, g}
}

// lay puts cells on page n.
func (s sketch) lay(n, kind, next int, cells ...[]byte) {
	s.t.Helper()
	b, e := node.Encode(kind, next, cells)
	want(s.t, "Encode", e, api.OK)
	want(s.t, "Write", s.g.Write(n, b), api.OK)
}

// directory lays on page 2 that of the entries.
func (s sketch) directory(l ...api.Entry) {
	s.t.Helper()
	s.lay(2, 1, 0)
	for _, x := range l {
		_, e := tree.Put(s.g, 2, x.ID, boxBytes(x.Box))
		want(s.t, "tree.Put", e, api.OK)
	}
}

// dots tells many entries, from first on, of points side by side.
func dots(first int64, many int) []api.Entry {
	var l []api.Entry
	for k := range int64(many) {
		l = append(l, api.Entry{ID: first + k, Box: dot(10*(first+k), 5)})
	}
	return l
}

// branch tells a fork's entry above page at with the entries of l below.
func branch(at int64, l ...api.Entry) api.Entry {
	b := l[0].Box
	for _, x := range l {
		lo := complex(min(real(b.Lo), real(x.Box.Lo)), min(imag(b.Lo), imag(x.Box.Lo)))
		hi := complex(max(real(b.Hi), real(x.Box.Hi)), max(imag(b.Hi), imag(x.Box.Hi)))
		b = api.Box{Lo: lo, Hi: hi}
	}
	return api.Entry{ID: at, Box: b}
}

// fork lays a fork, as the root or another one.
func (s sketch) fork(n int, l ...api.Entry) {
	s.t.Helper()
	s.lay(n, kindFork, 2*(1/n), cells(l)...)
}

// leaf lays a leaf, as the root or another one, and tells what is above it.
func (s sketch) leaf(n int, l ...api.Entry) api.Entry {
	s.t.Helper()
	s.lay(n, kindLeaf, 2*(1/n), cells(l)...)
	if len(l) == 0 {
		return api.Entry{ID: int64(n)}
	}
	return branch(int64(n), l...)
}

// whole lays a tree of two levels: the leaves 3 to 5, of three, five and eight entries.
func (s sketch) whole() {
	s.t.Helper()
	s.directory(dots(0, 16)...)
	s.fork(1, s.leaf(3, dots(0, 3)...), s.leaf(4, dots(3, 5)...), s.leaf(5, dots(8, 8)...))
}

// deep lays a tree of three levels: six leaves, from page 10 on, of three entries each, below the forks 8 and 9.
func (s sketch) deep() (a, b api.Entry) {
	s.t.Helper()
	var l []api.Entry
	for k := range 6 {
		l = append(l, s.leaf(10+k, dots(int64(3*k), 3)...))
	}
	s.directory(dots(0, 18)...)
	s.fork(8, l[:3]...)
	s.fork(9, l[3:]...)
	a, b = branch(8, l[:3]...), branch(9, l[3:]...)
	s.fork(1, a, b)
	return a, b
}

// bounds tells what is above the leaves of whole.
func bounds() (a, b, c api.Entry) {
	return branch(3, dots(0, 3)...), branch(4, dots(3, 5)...), branch(5, dots(8, 8)...)
}

// What is not quite a tree of boxes: a way to spoil the whole one each. Pages, Dump and Leaves tell ErrForm.
func TestForms(t *testing.T) {
	a, b, c := bounds()
	cell := func(id int64, b ...byte) []byte { return append(draft.Digits(uint64(id), 8), b...) }
	wrongWay := append(coordBytes(5), append(coordBytes(0), append(coordBytes(4), coordBytes(0)...)...)...)
	wider := func(x api.Entry) api.Entry { x.Box.Hi++; return x }
	higher := func(x api.Entry) api.Entry { x.Box.Hi += 1i; return x }
	for name, spoilt := range map[string]func(s sketch){
		"a kind of its own":       func(s sketch) { s.lay(1, 8, 2) },
		"a row's kind":            func(s sketch) { s.lay(1, 1, 2) },
		"an index's kind":         func(s sketch) { s.lay(1, 5, 2) },
		"kind 0":                  func(s sketch) { s.lay(1, 0, 2) },
		"no directory":            func(s sketch) { s.lay(1, kindFork, 0, cells([]api.Entry{a, b, c})...) },
		"no directory, a leaf":    func(s sketch) { s.directory(); s.lay(1, kindLeaf, 0) },
		"no directory, any more":  func(s sketch) { s.directory(dots(0, 3)...); s.lay(1, kindLeaf, 0, cells(dots(0, 3))...) },
		"a directory not held":    func(s sketch) { s.directory(); s.lay(1, kindLeaf, 400) },
		"a directory of noughts":  func(s sketch) { s.lay(1, kindLeaf, 30) },
		"a directory beyond all":  func(s sketch) { s.lay(1, kindLeaf, 1<<32-1) },
		"the root as directory":   func(s sketch) { s.lay(1, kindLeaf, 1) },
		"a leaf as directory":     func(s sketch) { s.lay(1, kindFork, 3, cells([]api.Entry{a, b, c})...) },
		"an empty directory":      func(s sketch) { s.directory() },
		"one too many there":      func(s sketch) { s.directory(dots(0, 17)...) },
		"one too few there":       func(s sketch) { s.directory(dots(0, 15)...) },
		"another one there":       func(s sketch) { s.directory(dots(1, 16)...) },
		"another box there":       func(s sketch) { s.directory(append(dots(0, 15), wider(dots(15, 1)[0]))...) },
		"a longer box there":      func(s sketch) { tree.Put(s.g, 2, 5, append(boxBytes(dot(50, 5)), 0)) },
		"a shorter box there":     func(s sketch) { tree.Put(s.g, 2, 5, boxBytes(dot(50, 5))[:15]) },
		"no bytes there":          func(s sketch) { tree.Put(s.g, 2, 5, nil) },
		"no box there":            func(s sketch) { tree.Put(s.g, 2, 5, wrongWay) },
		"many bytes there":        func(s sketch) { tree.Put(s.g, 2, 5, make([]byte, 1000)) },
		"a fork without entries":  func(s sketch) { s.fork(1) },
		"an empty fork":           func(s sketch) { s.directory(); s.fork(1) },
		"a fork with one entry":   func(s sketch) { s.directory(dots(8, 8)...); s.fork(1, c) },
		"a box too wide":          func(s sketch) { s.fork(1, a, wider(b), c) },
		"a box too high":          func(s sketch) { s.fork(1, a, b, higher(c)) },
		"a box too narrow":        func(s sketch) { c := c; c.Box.Hi--; s.fork(1, a, b, c) },
		"another child's box":     func(s sketch) { a, b := a, b; a.Box, b.Box = b.Box, a.Box; s.fork(1, a, b, c) },
		"a child that is page 0":  func(s sketch) { a := a; a.ID = 0; s.fork(1, a, b, c) },
		"a child below 0":         func(s sketch) { a := a; a.ID = -3; s.fork(1, a, b, c) },
		"a child by 2^32":         func(s sketch) { a := a; a.ID += 1 << 32; s.fork(1, a, b, c) },
		"a child beyond all":      func(s sketch) { a := a; a.ID = math.MaxInt64; s.fork(1, a, b, c) },
		"a child beyond pages":    func(s sketch) { a := a; a.ID = api.MaxPages; s.fork(1, a, b, c) },
		"a child not held":        func(s sketch) { a := a; a.ID = 400; s.fork(1, a, b, c) },
		"a child of noughts":      func(s sketch) { a := a; a.ID = 30; s.fork(1, a, b, c) },
		"a child twice":           func(s sketch) { s.fork(1, a, b, c, c) },
		"a child left out":        func(s sketch) { s.fork(1, a, c) },
		"the root as child":       func(s sketch) { a := a; a.ID = 1; s.fork(1, a, b, c) },
		"the directory as child":  func(s sketch) { a := a; a.ID = 2; s.fork(1, a, b, c) },
		"a child with a next":     func(s sketch) { s.lay(3, kindLeaf, 2, cells(dots(0, 3))...) },
		"a child of another kind": func(s sketch) { s.lay(3, 8, 0, cells(dots(0, 3))...) },
		"a leaf of nine": func(s sketch) {
			s.directory(dots(0, 17)...)
			s.fork(1, a, b, s.leaf(5, dots(8, 9)...))
		},
		"a root of nine":       func(s sketch) { s.directory(dots(0, 9)...); s.leaf(1, dots(0, 9)...) },
		"a leaf of two":        func(s sketch) { s.directory(dots(1, 15)...); s.fork(1, s.leaf(3, dots(1, 2)...), b, c) },
		"a leaf of one":        func(s sketch) { s.directory(dots(2, 14)...); s.fork(1, s.leaf(3, dots(2, 1)...), b, c) },
		"a leaf of none":       func(s sketch) { s.directory(dots(3, 13)...); s.leaf(3); s.fork(1, b, c, api.Entry{ID: 3}) },
		"a cell for a whole":   func(s sketch) { s.directory(api.Entry{}); s.lay(1, kindLeaf, 2, make([]byte, 7)) },
		"no cell for a whole":  func(s sketch) { s.directory(api.Entry{}); s.lay(1, kindLeaf, 2, nil) },
		"an id for a whole":    func(s sketch) { s.directory(api.Entry{}); s.lay(1, kindLeaf, 2, cell(0)) },
		"a box for a whole":    func(s sketch) { s.directory(api.Entry{}); s.lay(1, kindLeaf, 2, make([]byte, 25)) },
		"a cell too short":     func(s sketch) { s.lay(1, kindLeaf, 2, cell(1, boxBytes(dot(1, 1))[:15]...)) },
		"a cell too long":      func(s sketch) { s.lay(1, kindLeaf, 2, cell(1, append(boxBytes(dot(1, 1)), 0)...)) },
		"a cell without a box": func(s sketch) { s.lay(1, kindLeaf, 2, cell(1)) },
		"a cell of few bytes":  func(s sketch) { s.lay(1, kindLeaf, 2, cell(1)[:7]) },
		"an empty cell":        func(s sketch) { s.lay(1, kindLeaf, 2, nil) },
		"no box":               func(s sketch) { s.lay(1, kindLeaf, 2, cell(1, wrongWay...)) },
		"no box above":         func(s sketch) { s.lay(1, kindFork, 2, cells([]api.Entry{a, b})[0], cell(4, wrongWay...)) },
		"an identity twice": func(s sketch) {
			s.directory(dots(0, 3)...)
			s.leaf(1, append(dots(0, 3), dots(2, 1)...)...)
		},
		"an identity in two leaves": func(s sketch) {
			s.fork(1, a, s.leaf(4, append(dots(2, 1), dots(4, 4)...)...), c)
		},
		"leaves at two depths": func(s sketch) { x, _ := s.deep(); s.fork(1, x, branch(13, dots(9, 3)...), branch(14, dots(12, 3)...)) },
		"a fork beside a leaf": func(s sketch) { _, x := s.deep(); s.fork(1, branch(10, dots(0, 3)...), x) },
		"a fork of two below": func(s sketch) {
			x, _ := s.deep()
			s.fork(9, branch(13, dots(9, 3)...), branch(14, dots(12, 3)...))
			s.directory(dots(0, 15)...)
			s.fork(1, x, branch(9, dots(9, 6)...))
		},
		"a fork's box too wide": func(s sketch) { x, y := s.deep(); s.fork(1, wider(x), y) },
		"a leaf of two forks": func(s sketch) {
			x, _ := s.deep()
			s.fork(9, branch(12, dots(6, 3)...), branch(14, dots(12, 3)...), branch(15, dots(15, 3)...))
			s.fork(1, x, branch(9, dots(6, 12)...))
		},
		"forks in a round": func(s sketch) {
			x, y := s.deep()
			s.fork(8, x, x, x)
			s.fork(1, x, y)
		},
	} {
		s := newSketch(t)
		s.whole()
		spoilt(s)
		wantAll(t, looks(s.g, 1, 1)[3:], api.ErrForm)
		if t.Failed() {
			t.Fatal(name)
		}
		want(t, name, Drop(s.g, 1), api.ErrForm)
		everything(s.g, 1)
	}
}

// The trees that the others are spoilt from are some.
func TestWholeForms(t *testing.T) {
	a, b, c := bounds()
	for name, laid := range map[string]func(s sketch){
		"two levels":     func(s sketch) {},
		"another order":  func(s sketch) { s.fork(1, c, a, b) },
		"two leaves":     func(s sketch) { s.directory(dots(0, 8)...); s.fork(1, a, b) },
		"an empty root":  func(s sketch) { s.directory(); s.leaf(1) },
		"a root of one":  func(s sketch) { s.directory(dots(7, 1)...); s.leaf(1, dots(7, 1)...) },
		"a root of many": func(s sketch) { s.directory(dots(7, 8)...); s.leaf(1, dots(7, 8)...) },
		"three levels":   func(s sketch) { s.deep() },
	} {
		s := newSketch(t)
		s.whole()
		laid(s)
		goesOn(t, name, s.g, 1, rand.New(rand.NewSource(5)))
	}
}

// goesOn asks that what Dump lets through is a tree: by the model from then on, and in the end with all pages given back.
func goesOn(t *testing.T, name string, g *pages.Pages, root int, r *rand.Rand) {
	t.Helper()
	l, e := Dump(g, root)
	want(t, name, e, api.OK)
	others := len(held(t, g)) - len(ownPages(t, g, root))
	m := model{}
	for _, x := range l {
		m[x.ID] = x.Box
	}
	m.wantWhole(t, g, root)
	for range 40 {
		id := r.Int63n(100)
		if len(l) > 0 && r.Intn(2) == 0 {
			id = l[r.Intn(len(l))].ID
		}
		if r.Intn(2) == 0 {
			m.put(t, g, root, id, dot(r.Int63n(200), r.Int63n(20)))
		} else {
			m.delete(t, g, root, id)
		}
		m.wantGet(t, g, root, id)
		m.wantFind(t, g, root, mk(id, id+50, 2, 9))
	}
	m.wantWhole(t, g, root)
	for _, id := range m.ids() {
		m.delete(t, g, root, id)
	}
	if l := ownPages(t, g, root); len(l) > 2 || len(held(t, g)) != others+len(l) {
		t.Fatalf("%s: %v of %v", name, l, held(t, g))
	}
}

// Trees with a byte turned are none, or others: from these all goes on by the model. Every call ends.
func TestTurnedBytes(t *testing.T) {
	for many, times := range map[int64]int{3: 200, 12: 400, 80: 500} {
		g, p := fresh(t)
		root, m := some(t, g, many)
		turned(t, g, p, root, times)
		m.wantWhole(t, g, root)
	}
}

// turned spoils the tree so many times.
func turned(t *testing.T, g *pages.Pages, p *pager.Pager, root, times int) {
	t.Helper()
	r := rand.New(rand.NewSource(2))
	mark, _ := p.Mark()
	at := ownPages(t, g, root)
	kept := 0
	for range times {
		n := at[r.Intn(len(at))]
		i, x := r.Intn(api.PageSize), byte(1+r.Intn(255))
		switch r.Intn(4) {
		case 0:
			n = root
		case 1:
			i = r.Intn(40)
		case 2:
			i = api.PageSize - 1 - r.Intn(80)
		}
		b, e := g.Read(n)
		want(t, "Read", e, api.OK)
		b[i] ^= x
		want(t, "Write", g.Write(n, b), api.OK)
		_, e = Pages(g, root)
		_, f := Dump(g, root)
		if want(t, "Dump", f, e); e == api.OK {
			kept++
			goesOn(t, fmt.Sprint(n, i, x), g, root, r)
			want(t, "Drop", Drop(g, root), api.OK)
		} else {
			want(t, "Dump", e, api.ErrForm)
			everything(g, root)
		}
		want(t, "Back", p.Back(mark), api.OK)
	}
	if kept == 0 || kept == times {
		t.Errorf("%d of %d", kept, times)
	}
}

// stack lays forks, so many of them, each of whose entries tell of the next one, below the root.
func (s sketch) stack(many int) (behind int64) {
	s.t.Helper()
	s.directory(api.Entry{ID: 5, Box: dot(1, 1)})
	at := 1
	for k := range many {
		s.fork(at, slices.Repeat([]api.Entry{{ID: int64(3 + k), Box: mk(-1000, 1000, -1000, 1000)}}, api.Fan)...)
		at = 3 + k
	}
	return int64(at)
}

// Every call ends, and soon, where ways meet again and again, or have no end.
func TestRounds(t *testing.T) {
	for _, many := range []int{1, 3, 5, 6, 7, 8, 9, 12, 40} {
		s := newSketch(t)
		behind := int(s.stack(many))
		for _, last := range []func(){
			func() { s.leaf(behind, dots(0, 3)...) },
			func() {
				s.fork(behind, branch(3, dots(-99, 199)...), branch(3, dots(-99, 199)...), branch(3, dots(-99, 199)...))
			},
		} {
			s.stack(many)
			last()
			wantAll(t, looks(s.g, 1, 6)[1:], api.ErrForm)
			wantAll(t, changes(s.g, 1, 5), api.ErrForm)
			everything(s.g, 1)
		}
	}
}

// Where the directory holds what is no box, nothing is told beside the error.
func TestNoBoxThere(t *testing.T) {
	g, p := fresh(t)
	root, _ := some(t, g, 20)
	x, e := loadRoot(draft.On(g), root)
	want(t, "load", e, api.OK)
	for _, b := range [][]byte{nil, make([]byte, 15), make([]byte, 17), make([]byte, 1000), bytes.Repeat([]byte{9, 0, 0, 0, 0, 0, 0, 0}, 2)[1:]} {
		_, e = tree.Put(g, x.next, 7, b)
		want(t, "tree.Put", e, api.OK)
		before := image(t, p)
		if b, there, e := Get(g, root, 7); there || e != api.ErrForm || b != (api.Box{}) {
			t.Errorf("Get: %v, %v, %v", b, there, e)
		}
		wantAll(t, changes(g, root, 7), api.ErrForm)
		if !bytes.Equal(image(t, p), before) {
			t.Error("changed")
		}
	}
}

// A page that is none of the tree's is found out on the way to an entry, and nothing has changed then.
func TestAstray(t *testing.T) {
	s := newSketch(t)
	s.whole()
	a, b, c := bounds()
	for _, at := range []int64{1, 2, 30, 400, -1} {
		s.fork(1, api.Entry{ID: at, Box: mk(-500, 500, -500, 500)}, a, b, c)
		wantAll(t, changes(s.g, 1, 9)[:3], api.ErrForm)
	}
	s.fork(1, a, b, c)
	goesOn(t, "unspoilt", s.g, 1, rand.New(rand.NewSource(1)))
}

// lean lays knots with as few entries as may be, so many levels of forks of them, from page at on, and tells what is above them
// and the next page and identity that are left.
func (s sketch) lean(forks, entries, at int, id int64) (api.Entry, int, int64) {
	if forks == 0 {
		return s.leaf(at, dots(id, entries)...), at + 1, id + int64(entries)
	}
	below := at + 1
	if at == 1 {
		below = 3
	}
	var l []api.Entry
	for range entries {
		var x api.Entry
		x, below, id = s.lean(forks-1, api.FanLow, below, id)
		l = append(l, x)
	}
	s.fork(at, l...)
	return branch(int64(at), l...), below, id
}

// The deepest tree for which there are pages.
func TestDeepest(t *testing.T) {
	s := newSketch(t)
	fill(t, s.g, 1700)
	_, pages, many := s.lean(7, 2, 1, 0)
	if pages > 2300 || levels(t, s.g, 1) != 8 {
		t.Fatalf("%d pages, %d levels", pages, levels(t, s.g, 1))
	}
	s.directory(dots(0, int(many))...)
	m := model{}
	for _, x := range dots(0, int(many)) {
		m[x.ID] = x.Box
	}
	m.wantWhole(t, s.g, 1)
	// With the first one that goes it is less deep.
	m.put(t, s.g, 1, math.MinInt64, dot(0, 7))
	for id := int64(0); id < many; id += 5 {
		m.wantGet(t, s.g, 1, id)
		m.delete(t, s.g, 1, id)
		m.put(t, s.g, 1, id+1, dot(id, 5))
		m.put(t, s.g, 1, -id-1, dot(id, 6))
		if id%1000 == 0 {
			m.wantWhole(t, s.g, 1)
			m.wantFind(t, s.g, 1, mk(id-100, id+200, 0, 9))
		}
	}
	m.wantWhole(t, s.g, 1)
}

// Where the leaves lack what the directory holds, nothing has changed beside the error.
func TestLost(t *testing.T) {
	g, p := fresh(t)
	root, _ := some(t, g, 70)
	x, e := loadRoot(draft.On(g), root)
	want(t, "load", e, api.OK)
	_, e = tree.Put(g, x.next, 500, boxBytes(dot(3, 3)))
	want(t, "tree.Put", e, api.OK)
	before := image(t, p)
	wantAll(t, changes(g, root, 500), api.ErrForm)
	if !bytes.Equal(image(t, p), before) {
		t.Error("changed")
	}
}

// A leaf beside a fork is found out when it grows short, and nothing has changed then.
func TestUnlikeNeighbours(t *testing.T) {
	s := newSketch(t)
	x, y := s.deep()
	for _, neighbour := range []api.Entry{y, {ID: 30, Box: y.Box}, {ID: 400, Box: y.Box}} {
		s.fork(1, branch(10, dots(0, 3)...), neighbour)
		before, _ := s.g.Read(10)
		for id := range int64(3) {
			if was, e := Delete(s.g, 1, id); was || e != api.ErrForm {
				t.Errorf("%v: %v, %v", neighbour, was, e)
			}
		}
		if after, _ := s.g.Read(10); !bytes.Equal(before, after) {
			t.Errorf("%v: changed", neighbour)
		}
	}
	s.fork(1, x, y)
	goesOn(t, "unspoilt", s.g, 1, rand.New(rand.NewSource(1)))
}

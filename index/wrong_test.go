package index

import (
	"bytes"
	"fmt"
	"math"
	"math/rand"
	"slices"
	"strings"
	"testing"

	"cadastre/api"
	"cadastre/draft"
	"cadastre/node"
	"cadastre/pager"
	"cadastre/pages"
	"cadastre/record"
	"cadastre/tree"
	"cadastre/varint"
)

// everything calls all of it, so that it ends and does not panic, and tells nothing beside an error.
func everything(t *testing.T, g *pages.Pages, root int) {
	t.Helper()
	for _, k := range [][]api.Value{nil, key(in(-1)), key(in(250)), long(60, 3), key(tx("a")), key(bl("z"), null()), long(1500, 1)} {
		wantNothing(t, slices.Concat(wholes(g, root), asked(g, root, k)))
		Put(g, root, append(slices.Clone(k), tx(strings.Repeat("x", 90))))
	}
	Drop(g, root)
}

// wantNothing asks that there is nothing beside an error.
func wantNothing(t *testing.T, calls []told) {
	t.Helper()
	for _, x := range calls {
		if x.e != api.OK && !x.zero {
			t.Fatalf("%s: something beside %v", x.name, x.e)
		}
	}
}

// P15.1: what is not held is no root.
func TestNotHeld(t *testing.T) {
	g, _ := fresh(t)
	root, m := create(t, g), &model{}
	m.put(t, g, root, key(in(1)))
	for _, n := range []int{0, -1, root + 1, 77, api.MaxPages - 1, api.MaxPages, api.MaxPages + root, math.MaxInt, math.MinInt} {
		wantAll(t, looks(g, n, key(in(1))), api.ErrForm)
		wantAll(t, changes(g, n, key(in(1)), true), api.ErrForm)
		wantAll(t, changes(g, n, key(in(1)), false), api.ErrForm)
	}
	m.wantDump(t, g, root)
}

// A tree's root is no index's, nor the other way round.
func TestTree(t *testing.T) {
	g, _ := fresh(t)
	root, e := tree.Create(g)
	want(t, "tree.Create", e, api.OK)
	own := create(t, g)
	for range 2 {
		wantAll(t, looks(g, root, key(in(1))), api.ErrForm)
		if _, e := tree.Pages(g, own); e != api.ErrForm {
			t.Errorf("%v", e)
		}
		tree.Put(g, root, 1, []byte("one"))
		Put(g, own, key(in(1)))
	}
}

// P15.1, P15.2: pages of noughts, of any bytes, and of other things of an index's are no indexes; every call ends.
func TestNoIndex(t *testing.T) {
	g, p := fresh(t)
	root, m := create(t, g), &model{}
	m.put(t, g, root, long(2000, 1))
	n, e := g.Alloc()
	want(t, "Alloc", e, api.OK)
	mark, _ := p.Mark()
	r := rand.New(rand.NewSource(1))
	for k := range 3000 {
		b := make([]byte, api.PageSize)
		switch {
		case k > 1500:
			// A head that may be one, and places that are some.
			r.Read(b)
			b[0], b[1], b[2] = byte(3+r.Intn(4)), 0, byte(r.Intn(4))
			clear(b[3:7])
			for i := 7; i < 16; i += 2 {
				b[i], b[i+1] = byte(r.Intn(2)), byte(r.Intn(256))
			}
			for i := 16; i < len(b) && k%2 == 0; i++ {
				b[i] = []byte{0, 1, 2, 4, 6}[r.Intn(5)]
			}
		case k > 0:
			r.Read(b)
		}
		want(t, "Write", g.Write(n, b), api.OK)
		_, f := Pages(g, n)
		_, e := Dump(g, n)
		if e != f || e != api.OK && e != api.ErrForm || k <= 1500 && e == api.OK {
			t.Errorf("%x: %v, %v", b, e, f)
		}
		everything(t, g, n)
		want(t, "Back", p.Back(mark), api.OK)
	}
	for _, at := range ownPages(t, g, root) {
		if _, e := Dump(g, at); at != root && e != api.ErrForm {
			t.Errorf("%d: %v", at, e)
		}
	}
	m.wantDump(t, g, root)
}

// sketch is an index that is laid by hand: pages by their numbers, of which 1 is the root.
type sketch struct {
	t *testing.T
	g *pages.Pages
}

func newSketch(t *testing.T) sketch {
	t.Helper()
	g, _ := fresh(t)
	for n := 1; n < 50; n++ {
		at, e := g.Alloc()
		if e != api.OK || at != n {
			t.Fatalf("Alloc: %d, %v", at, e)
		}
	}
	return sketch{t, g}
}

// lay puts cells on page n.
func (s sketch) lay(n, kind, next int, cells ...[]byte) {
	s.t.Helper()
	b, e := node.Encode(kind, next, cells)
	want(s.t, "Encode", e, api.OK)
	want(s.t, "Write", s.g.Write(n, b), api.OK)
}

// holder tells a cell that holds k, a key whose record is short, behind these bytes.
func holder(ahead []byte, k ...api.Value) []byte {
	b, _ := record.Encode(k)
	return slices.Concat(ahead, []byte{0, byte(len(b))}, b)
}

// longHolder tells a cell that holds so many bytes, the first ones on page at.
func longHolder(size, at int) []byte {
	return slices.Concat(draft.Digits(uint64(size), 2), draft.Digits(uint64(at), 2))
}

// leaf lays a leaf with the keys of these numbers.
func (s sketch) leaf(n int, numbers ...int64) {
	s.t.Helper()
	var cells [][]byte
	for _, k := range numbers {
		cells = append(cells, holder(nil, in(k)))
	}
	s.lay(n, kindLeaf, 0, cells...)
}

// child tells a fork's cell without a bound.
func child(at int) []byte { return draft.Digits(uint64(at), 2) }

// fork lays a fork with these pages, and between them bounds of these numbers.
func (s sketch) fork(n int, first int, others ...int64) {
	s.t.Helper()
	cells := [][]byte{child(first)}
	for i := 0; i < len(others); i += 2 {
		cells = append(cells, holder(child(int(others[i+1])), in(others[i])))
	}
	s.lay(n, kindFork, 0, cells...)
}

// pieces lays data on these pages.
func (s sketch) pieces(data []byte, at ...int) {
	s.t.Helper()
	i := 0
	for part := range slices.Chunk(data, draft.Piece) {
		next := 0
		if i+1 < len(at) {
			next = at[i+1]
		}
		s.lay(at[i], draft.KindPiece, next, part)
		i++
	}
}

// bytesOf tells a record's bytes.
func bytesOf(k []api.Value) []byte {
	b, _ := record.Encode(k)
	return b
}

// between200 is a long key above 209 and below 300, between300 one above 300 and below 310.
func between200() []api.Value { return key(in(209), tx(strings.Repeat("k", 1190))) }
func between300() []api.Value { return key(in(300), tx(strings.Repeat("k", 600))) }

// whole lays an index of two levels: the leaves 2 to 4 with keys from 100, 200 and 310 on, a long key of pages 5 to 7, and a long
// bound of pages 8 and 9.
func (s sketch) whole() {
	s.t.Helper()
	s.lay(1, kindFork, 0, child(2), holder(child(3), in(200)), slices.Concat(child(4), longHolder(len(bytesOf(between300())), 8)))
	s.leaf(2, 100, 101, 102)
	s.lay(3, kindLeaf, 0, holder(nil, in(200)), holder(nil, in(208), tx("a")), longHolder(len(bytesOf(between200())), 5))
	s.leaf(4, 310)
	s.pieces(bytesOf(between200()), 5, 6, 7)
	s.pieces(bytesOf(between300()), 8, 9)
}

// deep lays an index of three levels: the leaves 10 to 15 with a key each, of 0, 100 and so on, below two forks, the second one
// from bound on.
func (s sketch) deep(bound int64) {
	s.t.Helper()
	for i := range int64(6) {
		s.leaf(int(10+i), 100*i)
	}
	s.fork(20, 10, 100, 11, 200, 12)
	s.fork(21, 13, 400, 14, 500, 15)
	s.fork(1, 20, bound, 21)
}

// P15.1, P15.2: what is not quite an index: a way to spoil the whole one each.
func TestForms(t *testing.T) {
	two := len(bytesOf(between200()))
	for name, spoilt := range map[string]func(s sketch){
		"a kind of its own":          func(s sketch) { s.lay(1, 6, 0) },
		"kind 0":                     func(s sketch) { s.lay(1, 0, 0) },
		"a tree's leaf":              func(s sketch) { s.lay(1, 1, 0) },
		"a piece as root":            func(s sketch) { s.lay(1, draft.KindPiece, 0, []byte("piece")) },
		"a leaf with a next":         func(s sketch) { s.lay(1, kindLeaf, 2) },
		"a fork with a next":         func(s sketch) { s.lay(1, kindFork, 9, child(2)) },
		"a fork without cells":       func(s sketch) { s.lay(1, kindFork, 0) },
		"a fork's first too short":   func(s sketch) { s.lay(1, kindFork, 0, child(2)[:1], holder(child(3), in(200))) },
		"a fork's first empty":       func(s sketch) { s.lay(1, kindFork, 0, nil, holder(child(3), in(200))) },
		"a fork's first with bound":  func(s sketch) { s.lay(1, kindFork, 0, holder(child(2), in(100)), holder(child(3), in(200))) },
		"a fork's cell empty":        func(s sketch) { s.lay(1, kindFork, 0, child(2), nil) },
		"a fork's cell too short":    func(s sketch) { s.lay(1, kindFork, 0, child(2), child(3)) },
		"a bound that is no record":  func(s sketch) { s.lay(1, kindFork, 0, child(2), slices.Concat(child(3), []byte{0, 2, 1, 9})) },
		"a bound too short":          func(s sketch) { s.lay(1, kindFork, 0, child(2), holder(child(3), in(200))[:5]) },
		"a bound too long":           func(s sketch) { s.lay(1, kindFork, 0, child(2), append(holder(child(3), in(200)), 0)) },
		"a bound without values":     func(s sketch) { s.lay(1, kindFork, 0, child(2), holder(child(3))) },
		"bounds alike":               func(s sketch) { s.fork(1, 2, 200, 3, 200, 4) },
		"bounds falling":             func(s sketch) { s.fork(1, 2, 300, 4, 200, 3) },
		"children in another order":  func(s sketch) { s.fork(1, 2, 200, 4, 300, 3) },
		"a key not below the bound":  func(s sketch) { s.fork(1, 2, 102, 3, 300, 4) },
		"a key below its bound":      func(s sketch) { s.fork(1, 2, 201, 3, 300, 4) },
		"a key below its bound last": func(s sketch) { s.fork(1, 2, 200, 3, 311, 4) },
		"a long key above the bound": func(s sketch) { s.fork(1, 2, 200, 3, 209, 4) },
		"a child that is the root":   func(s sketch) { s.fork(1, 1, 200, 3, 300, 4) },
		"a child twice":              func(s sketch) { s.fork(1, 2, 200, 3, 300, 3) },
		"a child that is page 0":     func(s sketch) { s.fork(1, 2, 200, 0, 300, 4) },
		"a child not held":           func(s sketch) { s.fork(1, 2, 200, 3, 300, 400) },
		"a child beyond all pages":   func(s sketch) { s.fork(1, 2, 200, 3, 300, 65535) },
		"a child of noughts":         func(s sketch) { s.fork(1, 2, 200, 3, 300, 30) },
		"a child that is a piece":    func(s sketch) { s.fork(1, 2, 200, 3, 300, 7) },
		"an empty leaf":              func(s sketch) { s.leaf(2) },
		"an empty leaf between":      func(s sketch) { s.leaf(3) },
		"an empty leaf at the end":   func(s sketch) { s.leaf(4) },
		"an only leaf, empty":        func(s sketch) { s.leaf(2); s.fork(1, 2) },
		"a leaf's keys alike":        func(s sketch) { s.leaf(2, 100, 101, 101) },
		"a leaf's keys falling":      func(s sketch) { s.leaf(2, 100, 102, 101) },
		"a key's cell empty":         func(s sketch) { s.lay(1, kindLeaf, 0, nil) },
		"a key's cell too short":     func(s sketch) { s.lay(1, kindLeaf, 0, []byte{0}) },
		"a key without a record":     func(s sketch) { s.lay(1, kindLeaf, 0, []byte{0, 0}) },
		"a key shorter than told":    func(s sketch) { s.lay(1, kindLeaf, 0, holder(nil, in(200))[:4]) },
		"a key longer than told":     func(s sketch) { s.lay(1, kindLeaf, 0, append(holder(nil, in(200)), 0)) },
		"a key that is no record":    func(s sketch) { s.lay(1, kindLeaf, 0, []byte{0, 3, 1, 1, 1}) },
		"a key of too many values":   func(s sketch) { s.lay(1, kindLeaf, 0, append([]byte{0, 19, 18}, make([]byte, 18)...)) },
		"a long key on the leaf":     func(s sketch) { s.lay(1, kindLeaf, 0, append([]byte{0, 114}, bytesOf(long(114, 1))...)) },
		"a short key on a page": func(s sketch) {
			s.lay(5, draft.KindPiece, 0, bytesOf(long(113, 1)))
			s.lay(1, kindLeaf, 0, longHolder(113, 5))
		},
		"a key beyond MaxRecord":     func(s sketch) { s.chain(api.MaxRecord + 1) },
		"a long key of no record":    func(s sketch) { s.pieces(make([]byte, two), 5, 6, 7) },
		"a piece too short":          func(s sketch) { s.lay(6, draft.KindPiece, 7, make([]byte, draft.Piece-1)) },
		"a piece of another kind":    func(s sketch) { s.lay(6, kindLeaf, 7, make([]byte, draft.Piece)) },
		"a piece without a cell":     func(s sketch) { s.lay(6, draft.KindPiece, 7) },
		"a last piece with a next":   func(s sketch) { s.pieces(bytesOf(between200()), 5, 6, 7, 9) },
		"a piece not held":           func(s sketch) { s.lay(6, draft.KindPiece, 400, bytesOf(between200())[501:1002]) },
		"a key's piece gone":         func(s sketch) { want(s.t, "Free", s.g.Free(7), api.OK) },
		"a bound's piece gone":       func(s sketch) { want(s.t, "Free", s.g.Free(9), api.OK) },
		"a bound on a key's pages":   func(s sketch) { s.lay(1, kindFork, 0, child(3), slices.Concat(child(4), longHolder(two, 5))) },
		"two keys on the same pages": func(s sketch) { s.lay(1, kindLeaf, 0, longHolder(two, 5), longHolder(two, 5)) },
		"a page of pieces as child": func(s sketch) {
			s.lay(1, kindFork, 0, child(2), slices.Concat(child(8), longHolder(len(bytesOf(between300())), 8)))
		},
		"leaves at two depths":        func(s sketch) { s.deep(300); s.fork(1, 10, 100, 21) },
		"a fork above a leaf's place": func(s sketch) { s.deep(300); s.fork(1, 20, 300, 13) },
		"a fork's bound above all":    func(s sketch) { s.deep(400) },
		"a fork's bound below":        func(s sketch) { s.deep(200) },
		"a fork's bound too low":      func(s sketch) { s.deep(201); s.fork(20, 10, 100, 11, 201, 12); s.leaf(12, 201) },
		"a key above a fork's bound":  func(s sketch) { s.deep(300); s.leaf(12, 200, 300) },
		"a key below a fork's bound":  func(s sketch) { s.deep(300); s.leaf(13, 299, 300) },
		"an empty leaf below":         func(s sketch) { s.deep(300); s.leaf(14) },
		"a fork without cells below":  func(s sketch) { s.deep(300); s.lay(21, kindFork, 0) },
	} {
		s := newSketch(t)
		s.whole()
		spoilt(s)
		_, f := Pages(s.g, 1)
		l, e := Dump(s.g, 1)
		if e != api.ErrForm || f != e || l != nil {
			t.Errorf("%s: %v, %v, %d keys", name, e, f, len(l))
		}
		everything(t, s.g, 1)
	}
}

// chain lays a root with one key of so many bytes, five blobs, on pages from 5 on.
func (s sketch) chain(size int) {
	s.t.Helper()
	const many = 3200
	last := size - 11 - 4*many
	b := []byte{5}
	for _, n := range []int{many, many, many, many, last} {
		b = append(b, varint.Put(uint64(12+2*n))...)
	}
	b = append(b, make([]byte, 4*many+last)...)
	if _, e := record.Decode(b); len(b) != size || e != api.OK {
		s.t.Fatalf("%d bytes, %v", len(b), e)
	}
	var at []int
	for n := range (size + draft.Piece - 1) / draft.Piece {
		at = append(at, 5+n)
	}
	s.lay(1, kindLeaf, 0, longHolder(size, 5))
	s.pieces(b, at...)
}

// P15.1, P15.2: what the others are spoilt from, and other ways in which an index may lie, are indexes.
func TestWholeForms(t *testing.T) {
	for name, laid := range map[string]func(s sketch){
		"two levels":             func(s sketch) {},
		"tight bounds":           func(s sketch) { s.fork(1, 2, 103, 3, 310, 4) },
		"an empty root":          func(s sketch) { s.leaf(1) },
		"a root with a key":      func(s sketch) { s.leaf(1, 7) },
		"a key without values":   func(s sketch) { s.lay(1, kindLeaf, 0, holder(nil), holder(nil, in(1))) },
		"a fork with one cell":   func(s sketch) { s.fork(1, 2) },
		"forks with one cell":    func(s sketch) { s.fork(1, 20); s.fork(20, 21); s.fork(21, 22); s.fork(22, 2) },
		"thin forks":             func(s sketch) { s.fork(1, 20, 200, 21); s.fork(20, 2); s.fork(21, 3) },
		"a thin fork at the end": func(s sketch) { s.fork(1, 20, 310, 21); s.fork(20, 2, 200, 3); s.fork(21, 4) },
		"three levels":           func(s sketch) { s.deep(300) },
		"three, loose":           func(s sketch) { s.deep(250) },
		"the longest key":        func(s sketch) { s.chain(api.MaxRecord) },
		"three, a long bound": func(s sketch) {
			s.deep(300)
			s.leaf(13, 310)
			s.lay(1, kindFork, 0, child(20), slices.Concat(child(21), longHolder(len(bytesOf(between300())), 8)))
		},
	} {
		s := newSketch(t)
		s.whole()
		laid(s)
		goesOn(t, name, s.g, 1, rand.New(rand.NewSource(5)))
	}
}

// goesOn asks that what Dump lets through is an index: by the model from then on, and in the end with all pages given back.
func goesOn(t *testing.T, name string, g *pages.Pages, root int, r *rand.Rand) {
	t.Helper()
	l, e := Dump(g, root)
	want(t, name, e, api.OK)
	others := len(held(t, g)) - len(ownPages(t, g, root))
	m := &model{slices.Clone(l)}
	for range 40 {
		k := key(in(int64(r.Intn(600))))
		switch r.Intn(6) {
		case 0:
			k = append(k, tx(strings.Repeat("k", r.Intn(700))))
		case 1:
			k = long(11+r.Intn(100), int64(r.Intn(50)))
		case 2, 3, 4:
			if len(l) > 0 {
				k = l[r.Intn(len(l))]
			}
		}
		if r.Intn(2) == 0 {
			m.put(t, g, root, k)
		} else {
			m.delete(t, g, root, k)
		}
		m.wantAbout(t, g, root, k)
	}
	m.wantDump(t, g, root)
	m.deleteAll(t, g, root)
	if l := ownPages(t, g, root); len(held(t, g)) != others+len(l) {
		t.Fatalf("%s: %v of %v", name, l, held(t, g))
	}
}

// P15.1, P15.2: indexes with a byte turned are none, or others: from these all goes on by the model. Every call ends.
func TestTurnedBytes(t *testing.T) {
	g, p := fresh(t)
	root, m := create(t, g), &model{}
	for k := range 100 {
		m.put(t, g, root, key(tx(strings.Repeat("t", 80)), in(int64(k*3))))
	}
	m.put(t, g, root, long(1600, 5))
	m.put(t, g, root, key(tx(strings.Repeat("t", 700)), in(5)))
	if levels(t, g, root) < 3 {
		t.Fatalf("%d levels", levels(t, g, root))
	}
	turned(t, g, p, root, 400)
}

// The same with an index of few pages, on which each byte counts.
func TestTurnedFew(t *testing.T) {
	g, p := fresh(t)
	root, m := create(t, g), &model{}
	for k := range int64(9) {
		m.put(t, g, root, key(in(k*300), tx(strings.Repeat("f", 80))))
	}
	m.put(t, g, root, long(600, 0))
	turned(t, g, p, root, 800)
}

// The same with long bounds.
func TestTurnedBounds(t *testing.T) {
	g, p := fresh(t)
	root, m := create(t, g), &model{}
	for k := range 90 {
		m.put(t, g, root, key(tx(strings.Repeat("t", 300)+string(rune('A'+k)))))
	}
	turned(t, g, p, root, 300)
}

// turned spoils the index so many times.
func turned(t *testing.T, g *pages.Pages, p *pager.Pager, root, times int) {
	t.Helper()
	r := rand.New(rand.NewSource(2))
	mark, _ := p.Mark()
	at := ownPages(t, g, root)
	kept := 0
	for range times {
		n := at[r.Intn(len(at))]
		if r.Intn(4) == 0 {
			n = root
		}
		i, x := r.Intn(api.PageSize), byte(1+r.Intn(255))
		switch r.Intn(3) {
		case 0:
			i = r.Intn(40)
		case 1:
			x = 1 << r.Intn(8)
		}
		b, e := g.Read(n)
		want(t, "Read", e, api.OK)
		b[i] ^= x
		want(t, "Write", g.Write(n, b), api.OK)
		_, e = Pages(g, root)
		_, f := Dump(g, root)
		if want(t, "Dump", f, e); e == api.OK {
			kept++
			goesOn(t, fmt.Sprint(n, i, x), g, root, r)
			want(t, "Drop", Drop(g, root), api.OK)
		} else {
			want(t, "Dump", e, api.ErrForm)
			everything(t, g, root)
		}
		want(t, "Back", p.Back(mark), api.OK)
	}
	if kept == 0 || kept == times {
		t.Errorf("%d of %d", kept, times)
	}
}

// Every call ends on ways down that have no end.
func TestRounds(t *testing.T) {
	for _, others := range [][]int64{{}, {5, 1}, {5, 2}, {0, 3, 1, 2, 2, 1}, {9, 3, -5, 3}} {
		for _, first := range []int{1, 2, 3} {
			s := newSketch(t)
			s.fork(1, first, others...)
			s.fork(2, 3, 50, 1)
			s.fork(3, 2, 60, 3)
			wantAll(t, wholes(s.g, 1), api.ErrForm)
			everything(t, s.g, 1)
		}
	}
	// One leaf without keys below many forks.
	s := newSketch(t)
	for n := 1; n < 40; n++ {
		s.fork(n, n+1, 10, int64(n+1), 20, int64(n+1), 30, int64(n+1))
	}
	s.leaf(40)
	wantAll(t, wholes(s.g, 1), api.ErrForm)
	everything(t, s.g, 1)
	// A fork's only child is itself, beside a leaf that goes.
	s = newSketch(t)
	s.fork(1, 2, 5, 3)
	s.leaf(2, 1)
	s.fork(3, 3)
	Delete(s.g, 1, key(in(1)))
	everything(t, s.g, 1)
}

// Keys that do not rise are cut in two as others are, and a key that is no record is told as ErrForm, if it is met.
func TestUnsorted(t *testing.T) {
	stem := strings.Repeat("u", 90)
	for _, cells := range [][][]byte{
		slices.Repeat([][]byte{holder(nil, tx(stem))}, 5),
		{holder(nil, tx(stem), in(5)), holder(nil, tx(stem), in(4)), holder(nil, tx(stem), in(3)), holder(nil, tx(stem), in(2)), holder(nil, in(1))},
		{holder(nil, tx(stem+"b")), holder(nil, tx(stem+"a")), holder(nil, tx(stem)), holder(nil, tx(stem[1:])), holder(nil)},
	} {
		for _, k := range [][]api.Value{key(tx(stem), bl("")), key(tx("zz"), tx(stem)), key(null(), tx(stem))} {
			s := newSketch(t)
			s.lay(1, kindLeaf, 0, cells...)
			wantAll(t, wholes(s.g, 1), api.ErrForm)
			Put(s.g, 1, k)
			everything(t, s.g, 1)
		}
	}
	s := newSketch(t)
	s.lay(1, kindLeaf, 0, holder(nil, in(1)), holder(nil, in(2)), []byte{0, 1, 9})
	wantAll(t, wholes(s.g, 1), api.ErrForm)
	wantAll(t, looks(s.g, 1, key(in(2)))[1:2], api.ErrForm)
	s.fork(1, 2, 100, 3)
	s.leaf(2, 7)
	s.leaf(3)
	wantAll(t, looks(s.g, 1, key(in(7)))[1:2], api.ErrForm)
	s.lay(2, kindLeaf, 0, holder(nil, in(1)), []byte{0, 1, 9})
	wantAll(t, looks(s.g, 1, key(in(7))), api.ErrForm)
	s.fork(1, 1)
	wantAll(t, looks(s.g, 1, key(in(7))), api.ErrForm)
}

// A leaf beside a fork is found out when it grows thin, and nothing has changed then.
func TestUnlikeNeighbours(t *testing.T) {
	for _, others := range [][]int64{{1000, 20}, {1000, 30}, {1000, 400}} {
		s := newSketch(t)
		s.deep(300)
		s.leaf(2, 1, 2, 3)
		s.fork(1, 2, others...)
		before, _ := s.g.Read(2)
		for k := range int64(3) {
			if was, e := Delete(s.g, 1, key(in(1+k))); was || e != api.ErrForm {
				t.Errorf("%v: %v, %v", others, was, e)
			}
		}
		if after, _ := s.g.Read(2); !bytes.Equal(before, after) {
			t.Errorf("%v: changed", others)
		}
	}
}

// Two indexes that were laid over one another: each is one, but their pages tell.
func TestShared(t *testing.T) {
	s := newSketch(t)
	s.whole()
	s.lay(20, kindLeaf, 0, longHolder(len(bytesOf(between200())), 5))
	a, b := ownPages(t, s.g, 1), ownPages(t, s.g, 20)
	if !slices.Equal(a, []int{1, 2, 3, 4, 5, 6, 7, 8, 9}) || !slices.Equal(b, []int{5, 6, 7, 20}) {
		t.Errorf("%v, %v", a, b)
	}
}

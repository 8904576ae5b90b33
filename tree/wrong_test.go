package tree

import (
	"bytes"
	"fmt"
	"math"
	"math/rand"
	"slices"
	"testing"

	"cadastre/api"
	"cadastre/draft"
	"cadastre/node"
	"cadastre/pager"
	"cadastre/pages"
)

// everything calls all of it, so that it ends and does not panic, whatever is told.
func everything(g *pages.Pages, root int) {
	for _, key := range []int64{math.MinInt64, -1, 0, 1, 50, math.MaxInt64} {
		looks(g, root, key)
		Put(g, root, key, []byte("x"))
		Put(g, root, key, filled(1, 1500))
		Delete(g, root, key)
	}
	Drop(g, root)
}

// P14.3: what is not held is no root.
func TestNotHeld(t *testing.T) {
	g, _ := fresh(t)
	root, m := create(t, g), model{}
	m.put(t, g, root, 1, []byte("one"))
	for _, n := range []int{0, -1, root + 1, 77, api.MaxPages - 1, api.MaxPages, api.MaxPages + root, math.MaxInt, math.MinInt} {
		wantAll(t, looks(g, n, 1), api.ErrForm)
		wantAll(t, changes(g, n, 1), api.ErrForm)
	}
	m.wantDump(t, g, root)
}

// P14.3: pages of noughts, of any bytes, and of other things of a tree's are no trees; every call ends.
func TestNoTree(t *testing.T) {
	g, p := fresh(t)
	root, m := create(t, g), model{}
	m.put(t, g, root, 1, filled(1, 2000))
	n, e := g.Alloc()
	want(t, "Alloc", e, api.OK)
	mark, _ := p.Mark()
	r := rand.New(rand.NewSource(1))
	for k := range 3000 {
		b := make([]byte, api.PageSize)
		switch {
		case k > 1500:
			// A head that may be one, and places that are some.
			r.Read(b)
			b[0], b[1], b[2] = byte(r.Intn(5)), 0, byte(r.Intn(4))
			clear(b[3:7])
			for i := 7; i < 16; i += 2 {
				b[i], b[i+1] = byte(r.Intn(2)), byte(r.Intn(256))
			}
			for i := 16; i < len(b) && k%2 == 0; i++ {
				b[i] = []byte{0, 1, 2, 10, 12}[r.Intn(5)]
			}
		case k > 0:
			r.Read(b)
		}
		want(t, "Write", g.Write(n, b), api.OK)
		_, f := Pages(g, n)
		_, _, e := Dump(g, n)
		if e != f || e != api.OK && e != api.ErrForm || k <= 1500 && e == api.OK {
			t.Errorf("%x: %v, %v", b, e, f)
		}
		everything(g, n)
		want(t, "Back", p.Back(mark), api.OK)
	}
	for _, at := range ownPages(t, g, root) {
		if _, _, e := Dump(g, at); at != root && e != api.ErrForm {
			t.Errorf("%d: %v", at, e)
		}
	}
	m.wantDump(t, g, root)
}

// sketch is a tree that is laid by hand: pages by their numbers, of which 1 is the root.
type sketch struct {
	t *testing.T
	g *pages.Pages
}

func newSketch(t *testing.T) sketch {
	t.Helper()
	g, _ := fresh(t)
	for n := 1; n < 50; n++ {
		at, e := g.Alloc()
		if e != api.OK || at != n {
			t.Fatalf("Alloc: %d, %v", at, e)
		}
	}
	return sketch{t, g}
}

// lay puts cells on page n.
func (s sketch) lay(n, kind, next int, cells ...[]byte) {
	s.t.Helper()
	b, e := node.Encode(kind, next, cells)
	want(s.t, "Encode", e, api.OK)
	want(s.t, "Write", s.g.Write(n, b), api.OK)
}

// leaf lays a leaf with many keys, from first on, of 20 bytes each.
func (s sketch) leaf(n, first, many int) {
	s.t.Helper()
	var cells [][]byte
	for k := range many {
		cells = append(cells, recordCell(int64(first+k), 20, filled(k, 20)))
	}
	s.lay(n, kindLeaf, 0, cells...)
}

// fork lays a fork; of the children, each a key and a page.
func (s sketch) fork(n int, children ...int64) {
	s.t.Helper()
	var cells [][]byte
	for i := 0; i < len(children); i += 2 {
		cells = append(cells, forkCell(children[i], int(children[i+1])))
	}
	s.lay(n, kindFork, 0, cells...)
}

// whole lays a tree of two levels: the leaves 2 to 4 with keys from 100, 200 and 300 on, and a long record of pages 5 to 7.
func (s sketch) whole() {
	s.t.Helper()
	s.fork(1, math.MinInt64, 2, 200, 3, 300, 4)
	s.leaf(2, 100, 10)
	s.leaf(4, 310, 10)
	var cells [][]byte
	for k := range 9 {
		cells = append(cells, recordCell(int64(200+k), 20, filled(k, 20)))
	}
	s.lay(3, kindLeaf, 0, append(cells, recordCell(250, 1200, []byte{0, 5}))...)
	s.lay(5, kindRest, 6, filled(1, piece))
	s.lay(6, kindRest, 7, filled(2, piece))
	s.lay(7, kindRest, 0, filled(3, 1200-2*piece))
}

// least is the least key.
const least = math.MinInt64

// P14.3: what is not quite a tree: a way to spoil the whole one each.
func TestForms(t *testing.T) {
	leaves := func(s sketch, many int) {
		for i := range many {
			s.leaf(10+i, 100*i, 10)
		}
	}
	for name, spoilt := range map[string]func(s sketch){
		"a kind of its own":           func(s sketch) { s.lay(1, 4, 0) },
		"kind 0":                      func(s sketch) { s.lay(1, 0, 0) },
		"a piece as root":             func(s sketch) { s.lay(1, kindRest, 0, filled(1, 20)) },
		"a leaf with a next":          func(s sketch) { s.lay(1, kindLeaf, 2) },
		"a fork with a next":          func(s sketch) { s.lay(1, kindFork, 9, forkCell(least, 2), forkCell(200, 3), forkCell(300, 4)) },
		"a fork without cells":        func(s sketch) { s.lay(1, kindFork, 0) },
		"a fork with one cell":        func(s sketch) { s.fork(1, least, 2) },
		"a fork's cell too short":     func(s sketch) { s.lay(1, kindFork, 0, forkCell(least, 2), forkCell(200, 3)[:9]) },
		"a fork's cell empty":         func(s sketch) { s.lay(1, kindFork, 0, forkCell(least, 2), nil) },
		"a fork's cell too long":      func(s sketch) { s.lay(1, kindFork, 0, forkCell(least, 2), append(forkCell(200, 3), 0)) },
		"a fork's first key":          func(s sketch) { s.fork(1, least+1, 2, 200, 3, 300, 4) },
		"a fork's keys alike":         func(s sketch) { s.fork(1, least, 2, 200, 3, 200, 4) },
		"a fork's keys falling":       func(s sketch) { s.fork(1, least, 2, 300, 4, 200, 3) },
		"children in another order":   func(s sketch) { s.fork(1, least, 2, 200, 4, 300, 3) },
		"a key too high for its leaf": func(s sketch) { s.fork(1, least, 2, 109, 3, 300, 4) },
		"a key too low for its leaf":  func(s sketch) { s.fork(1, least, 2, 201, 3, 300, 4) },
		"a leaf too low at the end":   func(s sketch) { s.fork(1, least, 2, 200, 3, 311, 4) },
		"a child that is the root":    func(s sketch) { s.fork(1, least, 1, 200, 3, 300, 4) },
		"a child twice":               func(s sketch) { s.fork(1, least, 2, 200, 3, 300, 3) },
		"a child that is page 0":      func(s sketch) { s.fork(1, least, 2, 200, 0, 300, 4) },
		"a child not held":            func(s sketch) { s.fork(1, least, 2, 200, 3, 300, 400) },
		"a child beyond all pages":    func(s sketch) { s.fork(1, least, 2, 200, 3, 300, 65535) },
		"a child of noughts":          func(s sketch) { s.fork(1, least, 2, 200, 3, 300, 30) },
		"a child that is a piece":     func(s sketch) { s.fork(1, least, 2, 200, 3, 300, 7) },
		"an empty leaf":               func(s sketch) { s.leaf(2, 0, 0) },
		"a thin leaf":                 func(s sketch) { s.leaf(2, 100, 3) },
		"a thin leaf at the end":      func(s sketch) { s.leaf(4, 310, 3) },
		"a leaf's keys alike":         func(s sketch) { s.leaf(2, 100, 10); s.twist(2, 101, 102) },
		"a leaf's keys falling":       func(s sketch) { s.leaf(2, 100, 10); s.twist(2, 101, 105) },
		"a record's cell empty":       func(s sketch) { s.lay(1, kindLeaf, 0, nil) },
		"a record's cell too short":   func(s sketch) { s.lay(1, kindLeaf, 0, recordCell(1, 0, nil)[:9]) },
		"a record shorter than told":  func(s sketch) { s.lay(1, kindLeaf, 0, recordCell(1, 20, filled(1, 19))) },
		"a record longer than told":   func(s sketch) { s.lay(1, kindLeaf, 0, recordCell(1, 20, filled(1, 21))) },
		"a long record on the leaf":   func(s sketch) { s.lay(1, kindLeaf, 0, recordCell(1, short+1, filled(1, short+1))) },
		"a short record on a page":    func(s sketch) { s.lay(1, kindLeaf, 0, recordCell(1, short, []byte{0, 7})) },
		"a record beyond MaxRecord":   func(s sketch) { s.chain(api.MaxRecord + 1) },
		"a piece too short":           func(s sketch) { s.lay(6, kindRest, 7, filled(2, piece-1)) },
		"an empty piece":              func(s sketch) { s.lay(6, kindRest, 7, nil) },
		"a last piece too short":      func(s sketch) { s.lay(7, kindRest, 0, filled(2, 1199-2*piece)) },
		"a last piece too long":       func(s sketch) { s.lay(7, kindRest, 0, filled(2, 1201-2*piece)) },
		"a piece of another kind":     func(s sketch) { s.lay(6, kindLeaf, 7, filled(2, piece)) },
		"a piece without a cell":      func(s sketch) { s.lay(6, kindRest, 7) },
		"a piece of two cells":        func(s sketch) { s.lay(7, kindRest, 0, filled(2, 1200-2*piece), nil) },
		"a last piece with a next":    func(s sketch) { s.lay(7, kindRest, 8, filled(3, 1200-2*piece)) },
		"a record that ends early":    func(s sketch) { s.lay(6, kindRest, 0, filled(2, piece)) },
		"a piece not held":            func(s sketch) { s.lay(6, kindRest, 400, filled(2, piece)) },
		"a piece beyond all pages":    func(s sketch) { s.lay(6, kindRest, 1<<32-1, filled(2, piece)) },
		"a piece that is a leaf":      func(s sketch) { s.lay(6, kindRest, 3, filled(2, piece)) },
		"a piece that is the last":    func(s sketch) { s.lay(6, kindRest, 6, filled(2, piece)) },
		"pieces in a round":           func(s sketch) { s.lay(5, kindRest, 5, filled(2, piece)); s.chain(piece * 3) },
		"a record of two keys": func(s sketch) {
			s.lay(1, kindLeaf, 0, recordCell(1, 1200, []byte{0, 5}), recordCell(2, 1200, []byte{0, 5}))
		},
		"a record's pages within another": func(s sketch) {
			s.lay(1, kindLeaf, 0, recordCell(1, 1200, []byte{0, 5}), recordCell(2, 1200-piece, []byte{0, 6}))
		},
		"leaves at two depths": func(s sketch) {
			leaves(s, 10)
			s.fork(8, 500, 10, 1000, 11, 1100, 12, 1200, 13, 1300, 14, 1400, 15, 1500, 16, 1600, 17, 1700, 18, 1800, 19)
			s.fork(1, least, 2, 200, 3, 500, 8)
		},
		"a thin fork": func(s sketch) {
			leaves(s, 19)
			s.fork(8, least, 10, 100, 11, 200, 12, 300, 13, 400, 14, 500, 15, 600, 16, 700, 17, 800, 18)
			s.fork(9, 900, 19, 1000, 20, 1100, 21, 1200, 22, 1300, 23, 1400, 24, 1500, 25, 1600, 26, 1700, 27, 1800, 28)
			s.fork(1, least, 8, 900, 9)
		},
		"a fork that begins above its key": func(s sketch) { s.deep(950, 0); s.fork(1, least, 8, 949, 9) },
		"a fork that begins below its key": func(s sketch) { s.deep(950, 0); s.fork(1, least, 8, 951, 9) },
		"a fork that begins too low":       func(s sketch) { s.deep(least+1, 0); s.fork(1, least, 8, 1000, 9) },
		"forks over the same keys":         func(s sketch) { s.deep(1000, 10) },
	} {
		s := newSketch(t)
		s.whole()
		spoilt(s)
		_, f := Pages(s.g, 1)
		keys, data, e := Dump(s.g, 1)
		if e != api.ErrForm || f != e || keys != nil || data != nil {
			t.Errorf("%s: %v, %v, %d keys", name, e, f, len(keys))
		}
		everything(s.g, 1)
	}
}

// twist gives the key of a leaf's page another one, where it stands.
func (s sketch) twist(n int, key, other int64) {
	s.t.Helper()
	b, _ := s.g.Read(n)
	b = bytes.Replace(b, draft.Digits(uint64(key), keySize), draft.Digits(uint64(other), keySize), 1)
	want(s.t, "Write", s.g.Write(n, b), api.OK)
}

// chain lays a root with one record of so many bytes, on page 5 and on those from 10 on.
func (s sketch) chain(size int) {
	s.t.Helper()
	s.lay(1, kindLeaf, 0, recordCell(1, size, []byte{0, 5}))
	if size <= 3*piece {
		return
	}
	at, left := 5, size
	for next := 10; left > piece; next++ {
		s.lay(at, kindRest, next, filled(next, piece))
		at, left = next, left-piece
	}
	s.lay(at, kindRest, 0, filled(1, left))
}

// deep lays a tree of three levels: 20 leaves, of keys from 0, 100 and so on, below two forks, the second one from key on;
// its leaves' keys, but for the first one, are lower by less.
func (s sketch) deep(key int64, less int64) {
	s.t.Helper()
	var first, second []int64
	for i := range int64(20) {
		s.leaf(int(10+i), int(100*i), 10)
		if i < 10 {
			first = append(first, 100*i, 10+i)
		} else {
			second = append(second, 100*i-less, 10+i)
		}
	}
	first[0], second[0] = least, key
	if less > 0 {
		first[18] += 1000
	}
	s.fork(8, first...)
	s.fork(9, second...)
	s.fork(1, least, 8, key, 9)
}

// P14.3: the trees that the others are spoilt from are some.
func TestWholeForms(t *testing.T) {
	for name, laid := range map[string]func(s sketch){
		"two levels":        func(s sketch) {},
		"a tight bound":     func(s sketch) { s.fork(1, least, 2, 110, 3, 310, 4) },
		"a thin root":       func(s sketch) { s.leaf(1, 5, 1) },
		"an empty root":     func(s sketch) { s.leaf(1, 5, 0) },
		"three levels":      func(s sketch) { s.deep(950, 0) },
		"three, tight":      func(s sketch) { s.deep(1000, 0) },
		"the longest chain": func(s sketch) { s.chain(api.MaxRecord) },
	} {
		s := newSketch(t)
		s.whole()
		laid(s)
		goesOn(t, name, s.g, 1, rand.New(rand.NewSource(5)))
	}
}

// goesOn asks that what Dump lets through is a tree: by the model from then on, and in the end with all pages given back.
func goesOn(t *testing.T, name string, g *pages.Pages, root int, r *rand.Rand) {
	t.Helper()
	keys, data, e := Dump(g, root)
	want(t, name, e, api.OK)
	others := len(held(t, g)) - len(ownPages(t, g, root))
	m := model{}
	for i, k := range keys {
		m[k] = data[i]
	}
	m.wantDump(t, g, root)
	for range 40 {
		key := int64(r.Intn(2000))
		if len(keys) > 0 && r.Intn(2) == 0 {
			key = keys[r.Intn(len(keys))]
		}
		if r.Intn(2) == 0 {
			m.put(t, g, root, key, filled(r.Intn(100), r.Intn(2)*r.Intn(1000)))
		} else {
			m.delete(t, g, root, key)
		}
		m.wantAbout(t, g, root, key)
	}
	m.wantDump(t, g, root)
	for _, k := range m.keys() {
		m.delete(t, g, root, k)
	}
	if l := ownPages(t, g, root); len(l) > 2 || len(held(t, g)) != others+len(l) {
		t.Fatalf("%s: %v of %v", name, l, held(t, g))
	}
}

// P14.3: trees with a byte turned are no trees, or others: from these all goes on by the model. Every call ends.
func TestTurnedBytes(t *testing.T) {
	g, p := fresh(t)
	root, m := create(t, g), model{}
	for k := range 160 {
		m.put(t, g, root, int64(k*3), filled(k, 110))
	}
	m.put(t, g, root, 50, filled(1, 1600))
	m.put(t, g, root, 350, filled(2, 700))
	if n := levels(t, g, root); n != 3 {
		t.Fatalf("%d levels", n)
	}
	turned(t, g, p, root, 400)
}

// The same with a tree of few pages, on which each byte counts.
func TestTurnedFew(t *testing.T) {
	g, p := fresh(t)
	root, m := create(t, g), model{}
	for k := range 9 {
		m.put(t, g, root, int64(k*3), filled(k, 100))
	}
	m.put(t, g, root, 5, filled(1, 600))
	turned(t, g, p, root, 800)
}

// turned spoils the tree so many times.
func turned(t *testing.T, g *pages.Pages, p *pager.Pager, root, times int) {
	t.Helper()
	r := rand.New(rand.NewSource(2))
	mark, _ := p.Mark()
	at := ownPages(t, g, root)
	kept := 0
	for range times {
		n := at[r.Intn(len(at))]
		if r.Intn(4) == 0 {
			n = root
		}
		i, x := r.Intn(api.PageSize), byte(1+r.Intn(255))
		switch r.Intn(3) {
		case 0:
			i = r.Intn(40)
		case 1:
			x = 1 << r.Intn(8)
		}
		b, e := g.Read(n)
		want(t, "Read", e, api.OK)
		b[i] ^= x
		want(t, "Write", g.Write(n, b), api.OK)
		_, e = Pages(g, root)
		_, _, f := Dump(g, root)
		if want(t, "Dump", f, e); e == api.OK {
			kept++
			goesOn(t, fmt.Sprint(n, i, x), g, root, r)
			want(t, "Drop", Drop(g, root), api.OK)
		} else {
			want(t, "Dump", e, api.ErrForm)
			everything(g, root)
		}
		want(t, "Back", p.Back(mark), api.OK)
	}
	if kept == 0 || kept == times {
		t.Errorf("%d of %d", kept, times)
	}
}

// Every call ends on ways down that have no end.
func TestRounds(t *testing.T) {
	for _, children := range [][]int64{{least, 1, 5, 1}, {least, 2, 5, 1}, {0, 1, 1, 2, 2, 3, 3, 1}, {-5, 3, 9, 3}} {
		s := newSketch(t)
		s.fork(1, children...)
		s.fork(2, least, 3, 50, 1)
		s.fork(3, 50, 2, 60, 3)
		wantAll(t, looks(s.g, 1, 55)[3:], api.ErrForm)
		everything(s.g, 1)
	}
	// Leaves without keys, one behind the other, by forks whose keys go down and up again.
	s := newSketch(t)
	s.fork(1, least, 2, 10, 3, 20, 2, 30, 3, 40, 4)
	s.fork(2, 5, 5, 6, 5, 7, 5)
	s.fork(3, -9, 5, -8, 5, -7, 5)
	s.leaf(4, -100, 3)
	s.leaf(5, 0, 0)
	wantAll(t, looks(s.g, 1, 0)[3:], api.ErrForm)
	everything(s.g, 1)
}

// A leaf beside a fork is found out when it grows thin, and nothing has changed then.
func TestUnlikeNeighbours(t *testing.T) {
	s := newSketch(t)
	s.deep(950, 0)
	s.leaf(2, 2000, 4)
	for _, children := range [][]int64{{least, 8, 2000, 2}, {least, 2, 3000, 9}, {least, 2, 3000, 30}} {
		s.fork(1, children...)
		before, _ := s.g.Read(2)
		for k := range int64(2) {
			if was, e := Delete(s.g, 1, 2000+k); was || e != api.ErrForm {
				t.Errorf("%v: %v, %v", children, was, e)
			}
		}
		if after, _ := s.g.Read(2); !bytes.Equal(before, after) {
			t.Errorf("%v: changed", children)
		}
	}
}

// Two trees that were laid over one another: each is one, but their pages tell.
func TestShared(t *testing.T) {
	s := newSketch(t)
	s.whole()
	s.lay(20, kindLeaf, 0, recordCell(1, 1200, []byte{0, 5}))
	a, b := ownPages(t, s.g, 1), ownPages(t, s.g, 20)
	if !slices.Equal(a, []int{1, 2, 3, 4, 5, 6, 7}) || !slices.Equal(b, []int{5, 6, 7, 20}) {
		t.Errorf("%v, %v", a, b)
	}
}

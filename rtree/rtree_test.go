package rtree

import (
	"bytes"
	"fmt"
	"math"
	"math/cmplx"
	"math/rand"
	"slices"
	"testing"

	"cadastre/api"
	"cadastre/draft"
	"cadastre/locks"
	"cadastre/pager"
	"cadastre/pages"
)

// The chapter's example, and one box fewer.
func TestExample(t *testing.T) {
	g, _ := fresh(t)
	root, m := create(t, g), model{}
	for k := range int64(9) {
		m.put(t, g, root, k, mk(k, k+1, 0, 1))
		leaves, e := Leaves(g, root)
		if wanted := int(1 + k/8); e != api.OK || len(leaves) != wanted {
			t.Errorf("%d: %v, %v", k, leaves, e)
		}
	}
	m.wantWhole(t, g, root)
}

// P18.1: a new tree has held pages that none had, and no entries.
func TestCreate(t *testing.T) {
	g, _ := fresh(t)
	var roots []int
	for range 20 {
		root := create(t, g)
		if slices.Contains(roots, root) {
			t.Fatalf("%d, %v", root, roots)
		}
		model{}.wantWhole(t, g, root)
		model{}.wantGet(t, g, root, 0)
		model{}.wantFind(t, g, root, mk(-api.Coord, api.Coord-1, -api.Coord, api.Coord-1))
		model{}.delete(t, g, root, 0)
		roots = append(roots, root)
		wantApart(t, g, roots)
		if len(ownPages(t, g, root)) > 2 {
			t.Fatalf("%v", ownPages(t, g, root))
		}
	}
}

// P18.1, P18.4: behind Drop the pages that were held ahead of Create are; another tree stays.
func TestDrop(t *testing.T) {
	for _, n := range []int64{0, 1, 8, 9, 40, 300, 1500} {
		g, _ := fresh(t)
		other, o := create(t, g), model{}
		for k := range int64(20) {
			o.put(t, g, other, k, dot(k, -k))
		}
		before := held(t, g)
		root, m := create(t, g), model{}
		for k := range n {
			m.put(t, g, root, k*7919%3001, dot(k*31%97, k*17%89))
		}
		m.wantWhole(t, g, root)
		wantApart(t, g, []int{root, other})
		want(t, "Drop", Drop(g, root), api.OK)
		if !slices.Equal(held(t, g), before) {
			t.Errorf("%d: %v, want %v", n, held(t, g), before)
		}
		wantAll(t, looks(g, root, 1), api.ErrForm)
		wantAll(t, changes(g, root, 1), api.ErrForm)
		o.wantWhole(t, g, other)
	}
}

// edges are coordinates at the edges of what is allowed, and about 0.
func edges() []int64 {
	return []int64{-api.Coord, -api.Coord + 1, -1, 0, 1, api.Coord - 2, api.Coord - 1}
}

// P18.2: boxes and identities at the edges.
func TestEdges(t *testing.T) {
	g, _ := fresh(t)
	root, m := create(t, g), model{}
	id := int64(math.MinInt64)
	for i, x0 := range edges() {
		for j, y0 := range edges() {
			for _, x1 := range edges()[i:] {
				y1 := edges()[j+(i+int(x1&3))%(7-j)]
				m.put(t, g, root, id, mk(x0, x1, y0, y1))
				m.wantGet(t, g, root, id)
				if id++; id == math.MinInt64+50 {
					id = -50
				}
				if id == 50 {
					id = math.MaxInt64 - 200
				}
			}
		}
	}
	m.put(t, g, root, math.MaxInt64, mk(-api.Coord, api.Coord-1, -api.Coord, api.Coord-1))
	m.wantWhole(t, g, root)
	for _, x := range edges() {
		for _, y := range edges() {
			m.wantFind(t, g, root, dot(x, y))
			m.wantFind(t, g, root, mk(-api.Coord, x, y, api.Coord-1))
			m.wantFind(t, g, root, mk(x, api.Coord-1, y, y))
		}
	}
	for _, id := range m.ids() {
		m.delete(t, g, root, id)
		m.wantGet(t, g, root, id)
	}
	m.wantWhole(t, g, root)
}

// P18.2: what only touches b meets it, what is one beside it does not.
func TestTouch(t *testing.T) {
	for _, many := range []int64{1, 8, 9, 60} {
		g, _ := fresh(t)
		root, m := create(t, g), model{}
		for k := range many {
			m.put(t, g, root, k, mk(10*k, 10*k+4, -3, 3))
		}
		for k := range many {
			for _, b := range []api.Box{dot(10*k, 3), dot(10*k+4, -3), dot(10*k, 4), dot(10*k+4, -4), dot(10*k-1, 0), dot(10*k+5, 0),
				mk(10*k-9, 10*k, 3, 9), mk(10*k-5, 10*k-1, 0, 9), mk(10*k+1, 10*k+2, -1, 1), mk(10*k-5, 10*k+9, -9, 9)} {
				m.wantFind(t, g, root, b)
			}
		}
	}
}

// wrongBoxes are no boxes.
func wrongBoxes() []api.Box {
	l := []api.Box{{Lo: 1}, {Lo: 1i}, {Hi: -1}, {Hi: -1i}, {Lo: 0.5, Hi: 1}, {Hi: 1 + 0.5i}, {Hi: api.Coord}, {Hi: api.Coord * 1i},
		{Lo: -api.Coord - 1}, {Lo: -(api.Coord + 1) * 1i}, {Lo: 2, Hi: 1 + 5i}, {Lo: 2i, Hi: 5 + 1i}}
	for _, f := range []float64{math.NaN(), math.Inf(1), math.Inf(-1), math.Copysign(0, -1)} {
		l = append(l, api.Box{Lo: complex(f, 0)}, api.Box{Lo: complex(0, f)}, api.Box{Hi: complex(f, 0)}, api.Box{Hi: complex(0, f)})
	}
	return append(l, api.Box{Lo: cmplx.NaN(), Hi: cmplx.NaN()}, api.Box{Hi: cmplx.Inf()})
}

// P18.2: ErrForm, if b is no box; nothing has changed then.
func TestNoBox(t *testing.T) {
	g, p := fresh(t)
	empty, root, m := create(t, g), create(t, g), model{}
	for k := range int64(30) {
		m.put(t, g, root, k, mk(k, 2*k, -k, k))
	}
	before := image(t, p)
	for _, b := range wrongBoxes() {
		for _, id := range []int64{-1, 5} {
			for _, root := range []int{empty, root} {
				if was, e := Put(g, root, id, b); was || e != api.ErrForm {
					t.Errorf("Put %v: %v, %v", b, was, e)
				}
				if l, e := Find(g, root, b); l != nil || e != api.ErrForm {
					t.Errorf("Find %v: %v, %v", b, l, e)
				}
			}
		}
	}
	if !bytes.Equal(image(t, p), before) {
		t.Error("changed")
	}
	m.wantWhole(t, g, root)
}

// layouts are ways in which boxes come: in a row, strewn, all alike, within one another, along lines.
func layouts(r *rand.Rand) map[string]func(k int64) api.Box {
	return map[string]func(k int64) api.Box{
		"a row":         func(k int64) api.Box { return mk(10*k, 10*k+9, 0, 9) },
		"back":          func(k int64) api.Box { return mk(-10*k, -10*k+9, 0, 9) },
		"a column":      func(k int64) api.Box { return mk(-4, 4, 3*k, 3*k+7) },
		"all alike":     func(k int64) api.Box { return mk(1, 2, 3, 4) },
		"one point":     func(k int64) api.Box { return dot(0, 0) },
		"two points":    func(k int64) api.Box { return dot(100*(k%2), 0) },
		"nested":        func(k int64) api.Box { return mk(-k, k, -k, k) },
		"growing":       func(k int64) api.Box { return mk(0, k*k, 0, k) },
		"a grid":        func(k int64) api.Box { return dot(k%20, k/20) },
		"crossing":      func(k int64) api.Box { return mk(k-k%2*1000, k+k%2*1000, k-(k+1)%2*1000, k+(k+1)%2*1000) },
		"strewn points": func(k int64) api.Box { return dot(r.Int63n(1000), r.Int63n(1000)) },
		"strewn boxes": func(k int64) api.Box {
			x, y := r.Int63n(1000), r.Int63n(1000)
			return mk(x, x+r.Int63n(200), y, y+r.Int63n(200))
		},
		"the whole": func(k int64) api.Box { return mk(-api.Coord, api.Coord-1-k, -api.Coord+k, api.Coord-1) },
		"far apart": func(k int64) api.Box { return dot(edges()[k%7], edges()[k/7%7]) },
	}
}

// P18.2 to P18.4: however boxes lie, and in whatever order they go, leaves are as they must be at each step; in the end
// there are at most two pages.
func TestLayouts(t *testing.T) {
	for name, layout := range layouts(rand.New(rand.NewSource(4))) {
		for order, next := range []func(left []int64) int{
			func(left []int64) int { return 0 },
			func(left []int64) int { return len(left) - 1 },
			func(left []int64) int { return len(left) * 5 / 8 },
		} {
			g, _ := fresh(t)
			root, m := create(t, g), model{}
			for k := range int64(130) {
				m.put(t, g, root, k, layout(k))
				m.wantWhole(t, g, root)
			}
			for k := range int64(12) {
				m.wantFind(t, g, root, mk(k*k-30, 20*k, -k, 30*k*k))
				m.wantFind(t, g, root, m[k*10])
			}
			wantApart(t, g, []int{root})
			for left := m.ids(); len(left) > 0; left = m.ids() {
				id := left[next(left)]
				m.delete(t, g, root, id)
				m.wantGet(t, g, root, id)
				m.wantWhole(t, g, root)
				if id%20 == 0 {
					m.wantFind(t, g, root, mk(-50, 200, -70, 60))
				}
			}
			if l := ownPages(t, g, root); len(l) > 2 || len(held(t, g)) != len(l) {
				t.Errorf("%s, %d: %v", name, order, l)
			}
		}
	}
}

// P18.2: an identity has its last box alone, wherever that lies.
func TestPutAgain(t *testing.T) {
	r := rand.New(rand.NewSource(8))
	for _, many := range []int64{1, 3, 8, 9, 10, 30, 150} {
		for name, layout := range layouts(r) {
			g, _ := fresh(t)
			root, m := create(t, g), model{}
			for k := range many {
				m.put(t, g, root, k, layout(k))
			}
			for range 60 {
				k := r.Int63n(many)
				old := m[k]
				m.put(t, g, root, k, layout(r.Int63n(many)))
				m.wantGet(t, g, root, k)
				m.wantFind(t, g, root, old)
				m.wantFind(t, g, root, m[k])
				m.wantWhole(t, g, root)
			}
			if wantApart(t, g, []int{root}); len(m) != int(many) {
				t.Errorf("%s: %d", name, len(m))
			}
		}
	}
}

// P18.4: trees do not touch one another, though they hold the same identities.
func TestApart(t *testing.T) {
	g, _ := fresh(t)
	var roots []int
	var models []model
	for range 5 {
		roots, models = append(roots, create(t, g)), append(models, model{})
	}
	r := rand.New(rand.NewSource(6))
	for i := range 1500 {
		k := r.Intn(5)
		if id := r.Int63n(60); r.Intn(3) > 0 {
			models[k].put(t, g, roots[k], id, dot(r.Int63n(40), int64(k)))
		} else {
			models[k].delete(t, g, roots[k], id)
		}
		if i%50 == 0 {
			wantApart(t, g, roots)
			for k, m := range models {
				m.wantWhole(t, g, roots[k])
			}
		}
	}
}

// ErrLimit is told only if pages would be entitled to it; nothing has changed then, be it the boxes or the directory for which
// there is no room.
func TestJustEnough(t *testing.T) {
	needs := map[int]int{}
	for many := range int64(90) {
		for _, id := range []int64{many, many / 2} {
			g, p := fresh(t)
			root, m := create(t, g), model{}
			for k := range many {
				m.put(t, g, root, k, mk(20*k, 20*k+5, k%3, k%3+1))
			}
			mark, _ := p.Mark()
			before := len(held(t, g))
			_, e := Put(g, root, id, dot(20*many, 1))
			want(t, "Put", e, api.OK)
			need := len(held(t, g)) - before
			want(t, "Back", p.Back(mark), api.OK)
			if needs[max(need, 0)]++; need <= 0 && many%10 > 0 {
				continue
			}
			fill(t, g, max(need, 0))
			if need > 0 {
				mark, _ = p.Mark()
				_, e := g.Alloc()
				want(t, "Alloc", e, api.OK)
				was := image(t, p)
				if had, e := Put(g, root, id, dot(20*many, 1)); had || e != api.ErrLimit || !bytes.Equal(image(t, p), was) {
					t.Errorf("%d: %v, %v, or changed", many, had, e)
				}
				m.wantWhole(t, g, root)
				want(t, "Back", p.Back(mark), api.OK)
			}
			m.put(t, g, root, id, dot(20*many, 1))
			m.wantWhole(t, g, root)
			for _, id := range m.ids() {
				m.delete(t, g, root, id)
			}
			m.wantWhole(t, g, root)
		}
	}
	if needs[0] == 0 || needs[1] == 0 || needs[2] == 0 || needs[3] == 0 {
		t.Errorf("%v", needs)
	}
}

// Create is told what Alloc is told, for either page.
func TestNoRoot(t *testing.T) {
	g, p := fresh(t)
	other, m := create(t, g), model{}
	m.put(t, g, other, 1, dot(2, 3))
	for left := range 2 {
		mark, _ := p.Mark()
		fill(t, g, left)
		before := image(t, p)
		if root, e := Create(g); root != 0 || e != api.ErrLimit || !bytes.Equal(image(t, p), before) {
			t.Errorf("%d left: %d, %v", left, root, e)
		}
		want(t, "Back", p.Back(mark), api.OK)
	}
	fill(t, g, 2)
	root, n := create(t, g), model{}
	n.put(t, g, root, 1, dot(4, 5))
	n.wantWhole(t, g, root)
	m.wantWhole(t, g, other)
}

// some tells a tree of so many boxes.
func some(t *testing.T, g *pages.Pages, many int64) (int, model) {
	t.Helper()
	root, m := create(t, g), model{}
	for k := range many {
		m.put(t, g, root, k, mk(k*7%31-9, k*7%31+k%5, k*k%29, k*k%29+k%4))
	}
	return root, m
}

// The errors of pages: ErrBusy, where another one is in a transaction that has written; nothing has changed.
func TestBusy(t *testing.T) {
	for _, mode := range []int{api.ModeJournal, api.ModeLog} {
		d, l := newDisk(t, nil), locks.New()
		p, q := open(t, d, mode, l, 0), open(t, d, mode, l, 1)
		g, h := pages.New(p), pages.New(q)
		want(t, "Begin", p.Begin(), api.OK)
		root, m := some(t, g, 72)
		want(t, "Commit", p.Commit(), api.OK)
		want(t, "Begin", p.Begin(), api.OK)
		want(t, "Begin", q.Begin(), api.OK)
		create(t, h)
		before := image(t, p)
		wantAll(t, changes(g, root, 7), api.ErrBusy)
		for k := range int64(30) {
			if was, e := Put(g, root, 500+k, dot(k, k)); was || e != api.ErrBusy {
				t.Errorf("Put: %v, %v", was, e)
			}
		}
		if n, e := Create(g); n != 0 || e != api.ErrBusy {
			t.Errorf("Create: %d, %v", n, e)
		}
		m.delete(t, g, root, 500)
		m.wantWhole(t, g, root)
		if !bytes.Equal(image(t, p), before) {
			t.Error("changed")
		}
		want(t, "Rollback", q.Rollback(), api.OK)
		m.put(t, g, root, 7, dot(1, 4))
		m.wantWhole(t, g, root)
	}
}

// The errors of pages: without a transaction, of a nil file or one that New did not make, put out, in the dark. They go ahead
// of what is no box.
func TestOutside(t *testing.T) {
	d := newDisk(t, nil, api.Trouble{At: 9, Kind: api.TroubleOff})
	p := open(t, d, api.ModeJournal, locks.New(), 0)
	g := pages.New(p)
	want(t, "Begin", p.Begin(), api.OK)
	root, m := some(t, g, 30)
	want(t, "Commit", p.Commit(), api.OK)
	wantAll(t, all(g, root, 1), api.ErrState)
	_, e := Put(g, root, 1, api.Box{Lo: 1})
	want(t, "Put", e, api.ErrState)
	_, e = Find(g, root, api.Box{Lo: 1})
	want(t, "Find", e, api.ErrState)
	for _, g := range []*pages.Pages{nil, {}} {
		wantAll(t, all(g, root, 1), api.ErrForm)
	}
	wantAll(t, all(pages.New(&pager.Pager{}), root, 1), api.ErrIO)
	want(t, "Begin", p.Begin(), api.OK)
	m.wantWhole(t, g, root)
	for d.Write("other", 0, []byte{1}) == api.OK {
	}
	wantAll(t, all(g, root, 1), api.ErrIO)
}

// In the dark each call tells the disk's error, if it is the first one.
func TestDark(t *testing.T) {
	g, p := fresh(t)
	root, m := some(t, g, 90)
	files := []api.File{{Name: "base", Data: image(t, p)}}
	for k := range 10 {
		d := newDisk(t, files, api.Trouble{At: 1, Kind: api.TroubleOff})
		p := open(t, d, api.ModeLog, locks.New(), 0)
		g := pages.New(p)
		want(t, "Begin", p.Begin(), api.OK)
		m.wantWhole(t, g, root)
		want(t, "disk.Write", d.Write("other", 0, []byte{1}), api.ErrIO)
		var e api.Errno
		switch k {
		case 0:
			_, _, e = Get(g, root, 7)
		case 1:
			_, e = Find(g, root, dot(7, 7))
		case 2:
			_, e = Pages(g, root)
		case 3:
			_, e = Dump(g, root)
		case 4:
			_, e = Leaves(g, root)
		case 5:
			_, e = Put(g, root, 7, dot(0, 0))
		case 6:
			_, e = Delete(g, root, 7)
		case 7:
			e = Drop(g, root)
		case 8:
			_, e = Create(g)
		case 9:
			_, e = Delete(g, root, 777)
		}
		want(t, fmt.Sprint("in the dark: ", k), e, api.ErrIO)
		wantAll(t, all(g, root, 7), api.ErrIO)
	}
}

// R2: what is told is new memory, spare room too.
func TestTold(t *testing.T) {
	g, _ := fresh(t)
	for _, many := range []int64{5, 60} {
		root, m := some(t, g, many)
		all := mk(-100, 100, -100, 100)
		found, _ := Find(g, root, all)
		l, _ := Dump(g, root)
		leaves, _ := Leaves(g, root)
		at, _ := Pages(g, root)
		for i := range leaves {
			rest := slices.Concat(leaves[i+1:]...)
			wipe(leaves[i])
			if !slices.Equal(rest, slices.Concat(leaves[i+1:]...)) {
				t.Fatalf("%d: leaf %d shares", many, i)
			}
		}
		wanted := m.entries(func(api.Box) bool { return true })
		if !slices.Equal(found, wanted) || !slices.Equal(l, wanted) {
			t.Fatalf("%d: shared", many)
		}
		wipe(found)
		wipe(l)
		clear(leaves[:cap(leaves)])
		clear(at[:cap(at)])
		m.wantWhole(t, g, root)
		m.wantFind(t, g, root, all)
		ownPages(t, g, root)
	}
}

// wipe writes all over l, and over its spare room.
func wipe(l []api.Entry) {
	l = l[:cap(l)]
	for i := range l {
		l[i] = api.Entry{ID: -77, Box: api.Box{Hi: 77}}
	}
}

// levels tells how many knots lie on a way down.
func levels(t *testing.T, g *pages.Pages, root int) int {
	t.Helper()
	x, e := loadRoot(draft.On(g), root)
	n := 1
	for ; x.kind == kindFork; n++ {
		want(t, "load", e, api.OK)
		x, e = loadBelow(draft.On(g), x.list[0])
	}
	want(t, "load", e, api.OK)
	return n
}

// P18.2 to P18.4: as many boxes as a table has rows, and more than pages could tell one by one; the tree is not deep.
func TestMany(t *testing.T) {
	for _, apart := range []int64{1, 1000} {
		g, p := fresh(t)
		root, m := create(t, g), model{}
		r := rand.New(rand.NewSource(apart))
		for k := range int64(api.MaxRows) {
			x, y := r.Int63n(100000), r.Int63n(100000)
			m.put(t, g, root, k*7919%api.MaxRows, mk(x, x+r.Int63n(apart), y, y+r.Int63n(apart)))
		}
		m.wantWhole(t, g, root)
		if n := levels(t, g, root); n > 7 || len(ownPages(t, g, root)) > 2000 {
			t.Errorf("%d levels, %d pages", n, len(ownPages(t, g, root)))
		}
		want(t, "Commit", p.Commit(), api.OK)
		want(t, "Begin", p.Begin(), api.OK)
		for range 30 {
			x, y := r.Int63n(100000), r.Int63n(100000)
			m.wantFind(t, g, root, mk(x, x+3000, y, y+3000))
		}
		for i, k := range r.Perm(api.MaxRows) {
			m.delete(t, g, root, int64(k))
			if i%1000 == 0 {
				m.wantWhole(t, g, root)
			}
		}
		m.wantWhole(t, g, root)
		if l := ownPages(t, g, root); len(l) > 2 || len(held(t, g)) != len(l) {
			t.Errorf("%v", l)
		}
	}
}

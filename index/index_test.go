package index

import (
	"bytes"
	"fmt"
	"math"
	"math/rand"
	"slices"
	"strings"
	"testing"

	"cadastre/api"
	"cadastre/disk"
	"cadastre/draft"
	"cadastre/locks"
	"cadastre/node"
	"cadastre/pager"
	"cadastre/pages"
	"cadastre/tree"
)

// The chapter's example.
func TestExample(t *testing.T) {
	g, _ := fresh(t)
	root, m := create(t, g), &model{}
	m.put(t, g, root, key(in(1), tx("b")))
	m.put(t, g, root, key(in(1), tx("a")))
	l, e := Dump(g, root)
	if e != api.OK || len(l) != 2 || !slices.Equal(l[0], key(in(1), tx("a"))) || !slices.Equal(l[1], key(in(1), tx("b"))) {
		t.Errorf("%v, %v", l, e)
	}
}

// P15.1: a new index has a held page that none had, and no keys.
func TestCreate(t *testing.T) {
	g, _ := fresh(t)
	var roots []int
	for range 20 {
		root, m := create(t, g), &model{}
		if slices.Contains(roots, root) || !slices.Equal(ownPages(t, g, root), []int{root}) {
			t.Fatalf("%d, %v", root, roots)
		}
		m.wantDump(t, g, root)
		for _, k := range some() {
			m.wantAbout(t, g, root, k)
			m.delete(t, g, root, k)
		}
		roots = append(roots, root)
		if !slices.Equal(held(t, g), slices.Sorted(slices.Values(roots))) {
			t.Fatalf("%v", held(t, g))
		}
	}
}

// P15.1, P15.3: behind Drop the pages that were held ahead of Create are.
func TestDrop(t *testing.T) {
	for _, n := range []int{0, 1, 2, 5, 40, 41, 300, 1500, 3000} {
		g, _ := fresh(t)
		other, o := create(t, g), &model{}
		o.put(t, g, other, long(2000, 5))
		before := held(t, g)
		root, m := create(t, g), &model{}
		for k := range n {
			m.put(t, g, root, key(in(int64(k*7919%3001)), tx(strings.Repeat("a", k%100))))
		}
		m.put(t, g, root, long(16000, 77))
		both := append(ownPages(t, g, root), ownPages(t, g, other)...)
		slices.Sort(both)
		if !slices.Equal(both, held(t, g)) {
			t.Errorf("%d: %v of %v", n, both, held(t, g))
		}
		m.wantDump(t, g, root)
		want(t, "Drop", Drop(g, root), api.OK)
		if !slices.Equal(held(t, g), before) {
			t.Errorf("%d: %v, want %v", n, held(t, g), before)
		}
		wantAll(t, looks(g, root, key(in(1))), api.ErrForm)
		o.wantDump(t, g, other)
	}
}

// P15.2: keys whose records have any length, with neighbours or alone.
func TestSizes(t *testing.T) {
	for _, others := range []int{0, 1, 3, 20} {
		g, _ := fresh(t)
		root, m := create(t, g), &model{}
		for i := range others {
			m.put(t, g, root, long(100, int64(i)))
		}
		for _, a := range sizes() {
			k := long(a, 1)
			m.put(t, g, root, k)
			m.wantAbout(t, g, root, k)
			m.put(t, g, root, k)
			for _, b := range sizes() {
				m.put(t, g, root, long(b, 1))
				m.wantAbout(t, g, root, k)
				m.wantDump(t, g, root)
				m.delete(t, g, root, long(b, 1))
				m.wantAbout(t, g, root, long(b, 1))
				wantApart(t, g, []int{root})
			}
			m.delete(t, g, root, k)
			m.wantDump(t, g, root)
		}
		m.deleteAll(t, g, root)
	}
}

// P15.2: all lengths up to some pieces, beside one another.
func TestAllSizes(t *testing.T) {
	g, _ := fresh(t)
	root, m := create(t, g), &model{}
	for n := 11; n < 1200; n++ {
		m.put(t, g, root, long(n, int64(n*7919%1200)))
		m.wantAbout(t, g, root, long(n, int64(n*7919%1200)))
	}
	m.wantDump(t, g, root)
	m.deleteAll(t, g, root)
}

// some are keys at the edges: without values, with as many as may be, that begin with one another, of all kinds.
func some() [][]api.Value {
	l := [][]api.Value{nil, make([]api.Value, api.MaxCols+1), make([]api.Value, api.MaxCols), key(null()), key(null(), null()),
		key(null(), in(0)), key(in(1)), key(in(1), null()), key(in(1), null(), null()), key(in(1), in(0)), key(in(1), tx("")),
		key(in(1), bl("")), key(tx("")), key(tx(""), null()), key(tx(""), tx("")), key(bl("")), key(bl(""), in(-1))}
	for _, n := range []int64{0, 1, -1, 2, 127, 128, -128, -129, 255, 256, 1 << 15, -1 << 15, 1<<31 - 1, 1 << 31, -1 << 31, -1<<31 - 1,
		math.MaxInt64, math.MinInt64, math.MaxInt64 - 1, math.MinInt64 + 1} {
		l = append(l, key(in(n)), key(null(), in(n)), key(in(n), tx("a")))
	}
	for _, s := range []string{"a", "aa", "ab", "b", "\x00", "\x00\x00", "\x7f", "\x80", "\xff", "\xff\xff", "ä", strings.Repeat("a", 4096),
		strings.Repeat("a", 4095), strings.Repeat("a", 4095) + "b", strings.Repeat("\xff", 300), strings.Repeat("\x00", 130)} {
		l = append(l, key(tx(s)), key(bl(s)), key(tx(s), in(5)), key(in(3), bl(s), null()))
	}
	return l
}

// P15.2: the edges among the keys come and go, and each is asked for all along.
func TestKeys(t *testing.T) {
	g, _ := fresh(t)
	root, m := create(t, g), &model{}
	for _, k := range some() {
		m.put(t, g, root, k)
		for _, q := range some() {
			m.wantAbout(t, g, root, q)
		}
	}
	m.wantDump(t, g, root)
	for i := range some() {
		k := some()[i*37%len(some())]
		m.delete(t, g, root, k)
		m.delete(t, g, root, k)
		for _, q := range some() {
			m.wantAbout(t, g, root, q)
		}
	}
	m.wantDump(t, g, root)
	if len(m.l) > 0 || len(ownPages(t, g, root)) > 2 {
		t.Errorf("%d keys, %d pages", len(m.l), len(ownPages(t, g, root)))
	}
}

// orders tell in which order n keys come, or go.
func orders() map[string]func(i, n int) int {
	return map[string]func(i, n int) int{
		"rising":   func(i, n int) int { return i },
		"falling":  func(i, n int) int { return n - 1 - i },
		"inwards":  func(i, n int) int { return i/2 + i%2*(n-i) },
		"outwards": func(i, n int) int { return n/2 + (i+1)/2*(1-i%2*2) },
		"strewn":   func(i, n int) int { return i * 7919 % n },
	}
}

// P15.2, P15.3: keys that come and go in any order, on several levels; without keys an index has at most two pages.
func TestOrders(t *testing.T) {
	const n = 500
	keys := map[string]func(i int) []api.Value{
		"numbers":  func(i int) []api.Value { return key(in(int64(i*3)), in(int64(i%7))) },
		"texts":    func(i int) []api.Value { return key(tx(fmt.Sprintf("%0*d", 10+i%60, i)), in(int64(i))) },
		"likeness": func(i int) []api.Value { return key(tx(strings.Repeat("z", 90)), bl(fmt.Sprintf("%06d", i))) },
		"long":     func(i int) []api.Value { return key(tx(strings.Repeat("z", 200)), in(int64(i))) },
	}
	for name, k := range keys {
		for come, first := range orders() {
			for gone, second := range orders() {
				g, _ := fresh(t)
				root, m := create(t, g), &model{}
				for i := range n {
					m.put(t, g, root, k(first(i, n)))
				}
				if m.wantDump(t, g, root); len(m.l) != n || levels(t, g, root) < 2 {
					t.Fatalf("%s, %s: %d keys, %d levels", name, come, len(m.l), levels(t, g, root))
				}
				for i := range n {
					m.delete(t, g, root, k(second(i, n)))
					if i%201 == 0 {
						m.wantDump(t, g, root)
						m.wantAbout(t, g, root, k(i))
					}
				}
				m.wantDump(t, g, root)
				if len(m.l) != 0 || len(ownPages(t, g, root)) > 2 || len(held(t, g)) > 2 {
					t.Errorf("%s, %s, %s: %d keys, pages %v of %v", name, come, gone, len(m.l), ownPages(t, g, root), held(t, g))
				}
			}
		}
	}
}

// P15.2: Next from every key, and from those beside it, the beginnings of keys among them, goes through the index.
func TestNext(t *testing.T) {
	g, _ := fresh(t)
	root, m := create(t, g), &model{}
	for i := range 700 {
		m.put(t, g, root, key(in(int64(i*7919%1009)*2-900), tx(strings.Repeat("a", i%130))))
	}
	for _, k := range m.l {
		n, s := k[0].Int, k[1].Str
		for _, q := range [][]api.Value{k, k[:1], key(in(n - 1)), key(in(n + 1)), key(in(n), tx(s+"\x00")), key(in(n), tx(s), null()),
			key(in(n), null()), key(in(n), bl("")), key(in(n), tx(s), in(0))} {
			m.wantAbout(t, g, root, q)
		}
	}
	for _, q := range [][]api.Value{nil, key(null()), key(in(math.MinInt64)), key(in(math.MaxInt64)), key(tx("")), key(bl("\xff"))} {
		m.wantAbout(t, g, root, q)
	}
}

// wrongs are lists of which one is no value.
func wrongs() [][]api.Value {
	return [][]api.Value{key(api.Value{Int: 1}), key(api.Value{Str: "x"}), key(api.Value{Kind: 4}), key(api.Value{Kind: -1}),
		key(in(1), api.Value{Kind: api.KindInt, Str: "x"}), key(tx("a"), api.Value{Kind: api.KindText, Int: 1}),
		key(tx(strings.Repeat("a", api.MaxStr+1))), key(bl(strings.Repeat("a", api.MaxStr+1)), in(1)),
		append(make([]api.Value, 30), api.Value{Kind: 9})}
}

// tooMany are lists of too many values.
func tooMany() [][]api.Value {
	return [][]api.Value{make([]api.Value, api.MaxCols+2), append(make([]api.Value, 100), in(1)), slices.Repeat(key(tx("a")), 18),
		slices.Repeat(key(tx(strings.Repeat("a", 4096))), 18)}
}

// tooLong are keys whose records have too many bytes.
func tooLong() [][]api.Value {
	s := tx(strings.Repeat("a", 4096))
	return [][]api.Value{long(api.MaxRecord+1, 1), long(api.MaxRecord+2, -900), long(20000, 1<<20), key(s, s, s, s), slices.Repeat(key(s), 17)}
}

// asked calls all that take a key.
func asked(g *pages.Pages, root int, k []api.Value) []told {
	l := looks(g, root, k)[:3]
	was, e := Put(g, root, k)
	l = append(l, told{"Put", e, !was})
	was, e = Delete(g, root, k)
	return append(l, told{"Delete", e, !was})
}

// P15.2: what is no key is ErrForm, too many values, and, for Put, too long a record, ErrLimit; nothing has changed, not even that
// the transaction has written. The errors of pages go ahead of ErrLimit, a value that is none ahead of all.
func TestNoKey(t *testing.T) {
	d, l := newDisk(t, nil), locks.New()
	p, q := open(t, d, api.ModeJournal, l, 0), open(t, d, api.ModeJournal, l, 1)
	g, h := pages.New(p), pages.New(q)
	want(t, "Begin", p.Begin(), api.OK)
	root, m := create(t, g), &model{}
	for k := range 300 {
		m.put(t, g, root, long(70, int64(k)))
	}
	want(t, "Commit", p.Commit(), api.OK)
	want(t, "Begin", p.Begin(), api.OK)
	before := image(t, p)
	for _, k := range wrongs() {
		wantAll(t, asked(g, root, k), api.ErrForm)
	}
	for _, k := range tooMany() {
		wantAll(t, asked(g, root, k), api.ErrLimit)
	}
	for _, k := range tooLong() {
		if was, e := Put(g, root, k); was || e != api.ErrLimit {
			t.Errorf("Put: %v, %v", was, e)
		}
		m.wantAbout(t, g, root, k)
		m.delete(t, g, root, k)
	}
	for _, k := range slices.Concat(wrongs(), tooMany(), tooLong()) {
		for _, no := range []int{0, -1, root + 1000, api.MaxPages} {
			wantAll(t, asked(g, no, k), api.ErrForm)
		}
		wantAll(t, asked(nil, root, k), api.ErrForm)
	}
	// What is there already is not written again, and what is not there is not taken away.
	m.put(t, g, root, m.l[100])
	m.delete(t, g, root, key(in(7)))
	if !bytes.Equal(image(t, p), before) {
		t.Error("changed")
	}
	m.wantDump(t, g, root)
	want(t, "Begin", q.Begin(), api.OK)
	_, e := Put(h, root, key(in(7)))
	want(t, "Put of the other one", e, api.OK)
	want(t, "Rollback", p.Rollback(), api.OK)
	for _, k := range slices.Concat(tooMany(), tooLong()) {
		wantAll(t, asked(g, root, k), api.ErrState)
	}
	for _, k := range wrongs() {
		wantAll(t, asked(g, root, k), api.ErrForm)
		wantAll(t, asked(pages.New(&pager.Pager{}), root, k), api.ErrForm)
	}
}

// P15.3: indexes side by side, and trees, do not touch one another.
func TestSideBySide(t *testing.T) {
	g, p := fresh(t)
	r := rand.New(rand.NewSource(3))
	var roots []int
	var ms []*model
	for range 5 {
		roots, ms = append(roots, create(t, g)), append(ms, &model{})
	}
	row, e := tree.Create(g)
	want(t, "tree.Create", e, api.OK)
	for i := range 3000 {
		n, k := r.Intn(5), long(11+r.Intn(3)*r.Intn(300), int64(r.Intn(60)))
		if r.Intn(3) == 0 {
			ms[n].delete(t, g, roots[n], k)
		} else {
			ms[n].put(t, g, roots[n], k)
		}
		_, e := tree.Put(g, row, int64(i%50), make([]byte, i))
		want(t, "tree.Put", e, api.OK)
	}
	rows, _, e := tree.Dump(g, row)
	if e != api.OK || len(rows) != 50 {
		t.Errorf("%d rows, %v", len(rows), e)
	}
	want(t, "tree.Drop", tree.Drop(g, row), api.OK)
	wantApart(t, g, roots)
	want(t, "Commit", p.Commit(), api.OK)
	want(t, "Begin", p.Begin(), api.OK)
	for i, root := range roots {
		ms[i].wantDump(t, g, root)
		want(t, "Drop", Drop(g, root), api.OK)
		wantApart(t, g, roots[i+1:])
	}
}

// R4: ErrLimit of pages leaves everything as it was, to the last byte; what needs no page, or gives some back, is done.
func TestFull(t *testing.T) {
	g, p := fresh(t)
	root, m := create(t, g), &model{}
	for k := range 400 {
		m.put(t, g, root, long(60, int64(k*2)))
	}
	m.put(t, g, root, long(5000, 100))
	fill(t, g, 0)
	refused := 0
	for i := 0; refused < 10; i += 7 {
		n := int64(i%400*2 + 1)
		before := image(t, p)
		was, e := Put(g, root, long(60, n))
		if e == api.OK {
			at, _ := m.find(long(60, n))
			m.l = slices.Insert(m.l, at, long(60, n))
			continue
		}
		refused++
		if was || e != api.ErrLimit || !bytes.Equal(image(t, p), before) {
			t.Fatalf("Put %d: %v, %v, or something changed", n, was, e)
		}
		for _, size := range []int{draft.Short + 1, 1000, api.MaxRecord} {
			if was, e := Put(g, root, long(size, n)); was || e != api.ErrLimit || !bytes.Equal(image(t, p), before) {
				t.Fatalf("Put %d, %d bytes: %v, %v, or something changed", n, size, was, e)
			}
		}
	}
	m.wantDump(t, g, root)
	m.delete(t, g, root, long(5000, 100))
	m.put(t, g, root, long(4000, 777))
	m.wantDump(t, g, root)
	m.deleteAll(t, g, root)
}

// ErrLimit is told only if pages would be entitled to it: with one page fewer the same Put is done.
func TestJustEnough(t *testing.T) {
	for _, keys := range []int{0, 7, 8, 9, 100, 353} {
		for _, n := range []int{60, draft.Short + 1, 3*draft.Piece + 1, api.MaxRecord} {
			g, p := fresh(t)
			root, m := create(t, g), &model{}
			for k := range keys {
				m.put(t, g, root, long(60, int64(k)))
			}
			mark, _ := p.Mark()
			before := len(held(t, g))
			m.clone().put(t, g, root, long(n, 1000))
			need := len(held(t, g)) - before
			want(t, "Back", p.Back(mark), api.OK)
			fill(t, g, need)
			mark, _ = p.Mark()
			m.clone().put(t, g, root, long(n, 1000))
			want(t, "Back", p.Back(mark), api.OK)
			if need == 0 {
				continue
			}
			_, e := g.Alloc()
			want(t, "Alloc", e, api.OK)
			_, e = Put(g, root, long(n, 1000))
			want(t, "Put", e, api.ErrLimit)
		}
	}
}

// Delete never needs a page, whatever the bounds above are like, and gives all of them back in the end.
func TestDeleteWhenFull(t *testing.T) {
	for seed := range int64(10) {
		g, _ := fresh(t)
		r := rand.New(rand.NewSource(seed))
		root, m := create(t, g), &model{}
		stems := []string{"", strings.Repeat("a", 20), strings.Repeat("b", 80), strings.Repeat("c", 105), strings.Repeat("d", 400), strings.Repeat("e", 1200)}
		one := func() []api.Value { return key(tx(stems[r.Intn(len(stems))]), in(int64(r.Intn(1000)))) }
		for range 600 {
			m.put(t, g, root, one())
		}
		fill(t, g, 0)
		before := len(held(t, g))
		for len(m.l) > 0 {
			m.delete(t, g, root, m.l[r.Intn(len(m.l))])
			k := one()
			was, e := Put(g, root, k)
			if i, there := m.find(k); e == api.OK && was == there {
				if !was {
					m.l = slices.Insert(m.l, i, k)
				}
			} else {
				want(t, "Put", e, api.ErrLimit)
			}
			if r.Intn(3) > 0 {
				m.delete(t, g, root, m.l[r.Intn(len(m.l))])
			}
			if len(held(t, g)) > before {
				t.Fatalf("%d held, want at most %d", len(held(t, g)), before)
			}
			if len(m.l)%50 == 0 {
				m.wantDump(t, g, root)
			}
		}
		m.deleteAll(t, g, root)
	}
}

// Create is told what Alloc is told.
func TestNoRoot(t *testing.T) {
	g, p := fresh(t)
	for {
		if _, e := g.Alloc(); e != api.OK {
			want(t, "Alloc", e, api.ErrLimit)
			break
		}
	}
	before := image(t, p)
	if root, e := Create(g); root != 0 || e != api.ErrLimit || !bytes.Equal(image(t, p), before) {
		t.Errorf("%d, %v", root, e)
	}
}

// The errors of pages: ErrBusy, where another one is in a transaction that has written; nothing has changed.
func TestBusy(t *testing.T) {
	for _, mode := range []int{api.ModeJournal, api.ModeLog} {
		d, l := newDisk(t, nil), locks.New()
		p, q := open(t, d, mode, l, 0), open(t, d, mode, l, 1)
		g, h := pages.New(p), pages.New(q)
		want(t, "Begin", p.Begin(), api.OK)
		root, m := create(t, g), &model{}
		for k := range 300 {
			m.put(t, g, root, long(11+k%110, int64(k)))
		}
		m.put(t, g, root, long(3000, 7))
		want(t, "Commit", p.Commit(), api.OK)
		want(t, "Begin", p.Begin(), api.OK)
		want(t, "Begin", q.Begin(), api.OK)
		_, e := Create(h)
		want(t, "Create", e, api.OK)
		before := image(t, p)
		for _, k := range [][]api.Value{key(in(1)), long(2000, 5), long(60, 60)} {
			wantAll(t, changes(g, root, k, false), api.ErrBusy)
		}
		wantAll(t, changes(g, root, long(3000, 7), true), api.ErrBusy)
		wantAll(t, changes(g, root, m.l[50], true), api.ErrBusy)
		if n, e := Create(g); n != 0 || e != api.ErrBusy {
			t.Errorf("Create: %d, %v", n, e)
		}
		m.delete(t, g, root, key(in(5000)))
		m.put(t, g, root, m.l[50])
		m.wantAbout(t, g, root, long(3000, 7))
		m.wantDump(t, g, root)
		if !bytes.Equal(image(t, p), before) {
			t.Error("changed")
		}
		want(t, "Rollback", q.Rollback(), api.OK)
		m.put(t, g, root, key(in(7)))
		m.wantDump(t, g, root)
	}
}

// The errors of pages: without a transaction, of a nil file or one that New did not make, put out, in the dark.
func TestOutside(t *testing.T) {
	d := newDisk(t, nil, api.Trouble{At: 9, Kind: api.TroubleOff})
	p := open(t, d, api.ModeJournal, locks.New(), 0)
	g := pages.New(p)
	want(t, "Begin", p.Begin(), api.OK)
	root, m := create(t, g), &model{}
	for k := range 50 {
		m.put(t, g, root, long(100, int64(k)))
	}
	want(t, "Commit", p.Commit(), api.OK)
	wantAll(t, all(g, root, key(in(1))), api.ErrState)
	for _, g := range []*pages.Pages{nil, {}} {
		wantAll(t, all(g, root, key(in(1))), api.ErrForm)
	}
	wantAll(t, all(pages.New(&pager.Pager{}), root, key(in(1))), api.ErrIO)
	want(t, "Begin", p.Begin(), api.OK)
	m.wantDump(t, g, root)
	for d.Write("other", 0, []byte{1}) == api.OK {
	}
	wantAll(t, all(g, root, key(in(1))), api.ErrIO)
}

// A look at an index in the dark tells the disk's error, wherever it comes.
func TestDark(t *testing.T) {
	g, p := fresh(t)
	root, m := create(t, g), &model{}
	for k := range 50 {
		m.put(t, g, root, long(100, int64(k)))
	}
	seven := long(3000, 7)
	m.put(t, g, root, seven)
	files := []api.File{{Name: "base", Data: image(t, p)}}
	for k := range 9 {
		d := newDisk(t, files, api.Trouble{At: 1, Kind: api.TroubleOff})
		p := open(t, d, api.ModeLog, locks.New(), 0)
		g := pages.New(p)
		want(t, "Begin", p.Begin(), api.OK)
		m.wantDump(t, g, root)
		darken(t, d)
		var e api.Errno
		switch k {
		case 0:
			_, e = Has(g, root, seven)
		case 1:
			_, _, e = Next(g, root, seven, true)
		case 2:
			_, e = Pages(g, root)
		case 3:
			_, e = Dump(g, root)
		case 4:
			_, e = Put(g, root, seven)
		case 5:
			_, e = Put(g, root, tooLong()[0])
		case 6:
			_, e = Delete(g, root, seven)
		case 7:
			e = Drop(g, root)
		case 8:
			_, e = Create(g)
		}
		want(t, "in the dark", e, api.ErrIO)
		wantAll(t, all(g, root, seven), api.ErrIO)
		wantAll(t, asked(g, root, tooMany()[0]), api.ErrIO)
	}
}

func darken(t *testing.T, d *disk.Disk) {
	t.Helper()
	want(t, "disk.Write", d.Write("other", 0, []byte{1}), api.ErrIO)
}

// R2: what is handed in is neither changed nor kept.
func TestHandedIn(t *testing.T) {
	for _, n := range []int{30, draft.Short, draft.Short + 1, 5000} {
		g, _ := fresh(t)
		root, m := create(t, g), &model{}
		for i := range int64(40) {
			m.put(t, g, root, long(100, i))
		}
		k := append(long(n, 7), in(8), in(9))
		was := slices.Clone(k)
		k = k[:len(k)-2]
		for _, call := range []func(){
			func() { Has(g, root, k) }, func() { Next(g, root, k, true) }, func() { Next(g, root, k, false) },
			func() { Put(g, root, k) }, func() { Put(g, root, k) }, func() { Delete(g, root, k) }, func() { Put(g, root, k) },
		} {
			if call(); !slices.Equal(k[:len(was)], was) {
				t.Fatalf("%d: changed", n)
			}
		}
		clear(k)
		at, _ := m.find(long(n, 7))
		m.l = slices.Insert(m.l, at, long(n, 7))
		m.wantDump(t, g, root)
	}
}

// R2: what is told is new memory, spare room too.
func TestTold(t *testing.T) {
	g, _ := fresh(t)
	root, m := create(t, g), &model{}
	for k := range 60 {
		m.put(t, g, root, long(11+k*5, int64(k)))
	}
	for _, k := range m.l {
		n, _, _ := Next(g, root, k, false)
		spoil(n)
		n, _, _ = Next(g, root, k, true)
		spoil(n)
	}
	l, _ := Dump(g, root)
	at := ownPages(t, g, root)
	for i := range l {
		spoil(l[i])
		for j := i + 1; j < len(l); j++ {
			if !slices.Equal(l[j], m.l[j]) {
				t.Fatalf("%d and %d share", i, j)
			}
		}
	}
	clear(l[:cap(l)])
	clear(at[:cap(at)])
	m.wantDump(t, g, root)
	wantApart(t, g, []int{root})
}

// spoil writes all over k, and over its spare room.
func spoil(k []api.Value) {
	for i := range k[:cap(k)] {
		k[:cap(k)][i] = tx("spoilt")
	}
}

// A nil key and an empty one are one.
func TestNothing(t *testing.T) {
	g, p := fresh(t)
	h, q := fresh(t)
	a, b := create(t, g), create(t, h)
	(&model{}).put(t, g, a, nil)
	(&model{}).put(t, h, b, []api.Value{})
	if !bytes.Equal(image(t, p), image(t, q)) {
		t.Error("unlike")
	}
	m := &model{[][]api.Value{nil}}
	m.wantDump(t, g, a)
	m.wantAbout(t, h, b, nil)
	m.wantAbout(t, g, a, []api.Value{})
	m.put(t, g, a, []api.Value{})
	m.delete(t, g, a, []api.Value{})
	m.wantDump(t, g, a)
}

// The longest cells take a quarter of a page at most, so that what is too much for a page can be cut in two.
func TestRoom(t *testing.T) {
	if n := draft.Cost([][]byte{make([]byte, draft.PlaceSize+2+draft.Short)}); 4*n > node.Room(nil) {
		t.Errorf("%d of %d", n, node.Room(nil))
	}
}

// P15.2, P15.3: as deep an index as comes about, with nearly all pages that there are.
func TestDeep(t *testing.T) {
	g, p := fresh(t)
	root, m := create(t, g), &model{}
	// All of a key but its last bytes is alike, so that no bound is short.
	one := func(i int) []api.Value { return key(tx(strings.Repeat("a", 95)+fmt.Sprintf("%05d", i)), in(1<<40)) }
	n := 0
	for len(held(t, g)) < 3900 {
		m.put(t, g, root, one(n))
		n++
	}
	if levels(t, g, root) < 7 || n < 4000 {
		t.Errorf("%d levels, %d keys", levels(t, g, root), n)
	}
	m.wantDump(t, g, root)
	want(t, "Commit", p.Commit(), api.OK)
	want(t, "Begin", p.Begin(), api.OK)
	for i := range n {
		k := one(i * 7919 % n)
		m.wantAbout(t, g, root, k)
		m.delete(t, g, root, k)
		m.wantAbout(t, g, root, k)
		if i%1000 == 0 {
			m.wantDump(t, g, root)
		}
	}
	m.wantDump(t, g, root)
	if l := ownPages(t, g, root); len(l) > 2 || len(held(t, g)) != len(l) || len(m.l) > 0 {
		t.Errorf("%v, %d keys", l, len(m.l))
	}
}

// Bounds that are long lie on pages of their own, and come and go with them.
func TestLongBounds(t *testing.T) {
	g, _ := fresh(t)
	root, m := create(t, g), &model{}
	stem := strings.Repeat("s", 1500)
	one := func(i int) []api.Value { return key(tx(stem+fmt.Sprintf("%05d", i)), bl("")) }
	for i := range 300 {
		m.put(t, g, root, one(i*77%300))
		m.wantAbout(t, g, root, one(i*31%300))
	}
	m.wantDump(t, g, root)
	// A record of 1512 bytes lies on 4 pages; those beyond are the knots', and those of bounds.
	if n := len(held(t, g)) - 300*4; levels(t, g, root) != 2 || n < 8+7*4 || len(ownPages(t, g, root)) != len(held(t, g)) {
		t.Errorf("%d levels, %d pages more", levels(t, g, root), n)
	}
	for i := range 300 {
		m.delete(t, g, root, one(i*113%300))
		m.wantAbout(t, g, root, one(i*31%300))
		wantApart(t, g, []int{root})
	}
	m.wantDump(t, g, root)
	m.deleteAll(t, g, root)
}

// An index is shallow, and its pages are not left empty.
func TestPageCount(t *testing.T) {
	g, _ := fresh(t)
	root, m := create(t, g), &model{}
	one := func(i int) []api.Value { return key(tx(fmt.Sprintf("name %05d", i)), in(int64(i))) }
	for i := range 4096 {
		m.put(t, g, root, one(i))
	}
	if n := len(ownPages(t, g, root)); n > 4096*22*2/500+30 || levels(t, g, root) != 3 {
		t.Errorf("%d pages, %d levels", n, levels(t, g, root))
	}
	r := rand.New(rand.NewSource(1))
	for _, i := range r.Perm(4096)[:4000] {
		m.delete(t, g, root, one(i))
	}
	m.wantDump(t, g, root)
	if n := len(ownPages(t, g, root)); n > 96*22*4/500+3 {
		t.Errorf("%d pages", n)
	}
}

// Few keys do not hold many pages, wherever others came and went.
func TestTides(t *testing.T) {
	for seed := range int64(20) {
		g, _ := fresh(t)
		r := rand.New(rand.NewSource(seed))
		root, m := create(t, g), &model{}
		for round := range 12 {
			low := int64(r.Intn(200))
			for i := range int64(150) {
				m.put(t, g, root, long(40+int(i)%70, low+i))
			}
			for i := len(m.l) - 1; i >= 0; i-- {
				if r.Intn(10) > 0 || round%3 == 0 && i%7 > 0 {
					m.delete(t, g, root, m.l[i])
				}
			}
			bytes := 0
			for _, k := range m.l {
				bytes += size(t, k) + 5
			}
			if n := len(ownPages(t, g, root)); n > bytes*8/500+8 {
				t.Errorf("%d: %d pages for %d keys", seed, n, len(m.l))
			}
		}
		m.wantDump(t, g, root)
	}
}

// A page is filled to its last byte.
func TestFilled(t *testing.T) {
	g, _ := fresh(t)
	root, m := create(t, g), &model{}
	for i, n := range []int{113, 113, 113, 113, 28} {
		m.put(t, g, root, long(n, int64(i)))
	}
	if p, _ := g.Read(root); len(held(t, g)) != 1 || p[17] == 0 {
		t.Errorf("%v, %v", held(t, g), p)
	}
	m.put(t, g, root, key(in(1)))
	if len(held(t, g)) != 3 {
		t.Errorf("%v", held(t, g))
	}
	m.wantDump(t, g, root)
}

// Two leaves become one where few keys are left, but not so soon that the next one parts them again. A page has room for ten.
func TestParted(t *testing.T) {
	for _, gone := range [][]int64{{10, 9, 8, 7}, {10, 9, 0, 1}, {0, 1, 2, 3}, {0, 10, 1, 9}} {
		g, _ := fresh(t)
		root, m := create(t, g), &model{}
		for i := range int64(11) {
			m.put(t, g, root, long(45, i))
		}
		for _, n := range gone {
			if len(held(t, g)) != 3 {
				t.Fatalf("%v: %d keys, held %v", gone, len(m.l), held(t, g))
			}
			m.delete(t, g, root, long(45, n))
		}
		if len(held(t, g)) != 1 {
			t.Errorf("%v: %d keys, held %v", gone, len(m.l), held(t, g))
		}
		m.wantDump(t, g, root)
	}
}

// A bound is above the one, not above the other, and no longer than that one.
func TestBetween(t *testing.T) {
	l := some()
	for i := range int64(100) {
		l = append(l, key(in(i%7), tx(strings.Repeat("ab", int(i%11))), bl(fmt.Sprint(i))), long(100+int(i), i))
	}
	slices.SortFunc(l, order)
	for i, a := range l {
		for _, b := range l[i+1:] {
			if order(a, b) == 0 {
				continue
			}
			if s := between(a, b); order(a, s) >= 0 || order(s, b) > 0 || size(t, s) > size(t, b) {
				t.Fatalf("%.80v, %.80v: %.80v", a, b, s)
			}
		}
	}
	for _, x := range []struct{ a, b, s []api.Value }{
		{key(tx("abcd"), in(1)), key(tx("abxyz"), in(2)), key(tx("abx"))},
		{key(tx("ab")), key(tx("abcd"), in(2)), key(tx("abc"))},
		{key(in(5), in(6)), key(in(7), tx("long")), key(in(7))},
		{key(in(5)), key(in(5), tx("long")), key(in(5), null())},
		{key(in(5), in(6)), key(in(5), tx("long")), key(in(5), tx(""))},
		{key(tx("x")), key(bl("long"), in(1)), key(bl(""))},
		{nil, key(bl("long"), in(1)), key(null())},
	} {
		if s := between(x.a, x.b); !slices.Equal(s, x.s) {
			t.Errorf("%v, %v: %v, want %v", x.a, x.b, s, x.s)
		}
	}
}

package tree

import (
	"bytes"
	"math"
	"math/rand"
	"slices"
	"testing"

	"cadastre/api"
	"cadastre/disk"
	"cadastre/draft"
	"cadastre/locks"
	"cadastre/node"
	"cadastre/pager"
	"cadastre/pages"
)

// The chapter's example.
func TestExample(t *testing.T) {
	g, _ := fresh(t)
	root := create(t, g)
	m := model{}
	m.put(t, g, root, 3, []byte("three"))
	m.put(t, g, root, 1, []byte("one"))
	if k, data, there, e := Next(g, root, 0, false); k != 1 || string(data) != "one" || !there || e != api.OK {
		t.Errorf("%d, %s, %v, %v", k, data, there, e)
	}
	m.wantDump(t, g, root)
}

// P14.1: a new tree has a held page that none had, and no keys.
func TestCreate(t *testing.T) {
	g, _ := fresh(t)
	var roots []int
	for range 20 {
		root := create(t, g)
		if slices.Contains(roots, root) || !slices.Equal(ownPages(t, g, root), []int{root}) {
			t.Fatalf("%d, %v", root, roots)
		}
		model{}.wantDump(t, g, root)
		model{}.wantAbout(t, g, root, 0)
		model{}.delete(t, g, root, 0)
		roots = append(roots, root)
		if !slices.Equal(held(t, g), slices.Sorted(slices.Values(roots))) {
			t.Fatalf("%v", held(t, g))
		}
	}
}

// P14.1, P14.4: behind Drop the pages that were held ahead of Create are.
func TestDrop(t *testing.T) {
	for _, n := range []int{0, 1, 2, 5, 40, 41, 300, 1500, 3000} {
		g, _ := fresh(t)
		other, o := create(t, g), model{}
		o.put(t, g, other, 5, filled(5, 2000))
		before := held(t, g)
		root, m := create(t, g), model{}
		for k := range n {
			m.put(t, g, root, int64(k*7919%3001), filled(k, k%100))
		}
		m.put(t, g, root, 77, filled(1, 16000))
		both := append(ownPages(t, g, root), ownPages(t, g, other)...)
		slices.Sort(both)
		if !slices.Equal(both, held(t, g)) {
			t.Errorf("%d: %v of %v", n, both, held(t, g))
		}
		m.wantDump(t, g, root)
		want(t, "Drop", Drop(g, root), api.OK)
		if !slices.Equal(held(t, g), before) {
			t.Errorf("%d: %v, want %v", n, held(t, g), before)
		}
		wantAll(t, looks(g, root, 1), api.ErrForm)
		o.wantDump(t, g, other)
	}
}

// sizes are those of records at the edges of how they lie, and of what is allowed.
func sizes() []int {
	return []int{0, 1, 2, 50, short - 1, short, short + 1, 250, piece - 1, piece, piece + 1, 2*piece - 1, 2 * piece, 2*piece + 1,
		3 * piece, 16000, 32*piece - 1, 32 * piece, 32*piece + 1, api.MaxRecord - 1, api.MaxRecord}
}

// P14.2: a record of any length, put in the place of one of any other length, with neighbours or alone.
func TestSizes(t *testing.T) {
	for _, keys := range [][]int64{{1}, {0, 1, 2}, {-5, -4, -3, -2, -1, 0, 1, 2, 3, 4, 5}} {
		g, _ := fresh(t)
		root, m := create(t, g), model{}
		for _, k := range keys {
			m.put(t, g, root, k, filled(int(k), 100))
		}
		for i, a := range sizes() {
			for j, b := range sizes() {
				m.put(t, g, root, 1, filled(i, a))
				m.wantGet(t, g, root, 1)
				m.put(t, g, root, 1, filled(50+j, b))
				m.wantDump(t, g, root)
				if len(ownPages(t, g, root)) != len(held(t, g)) {
					t.Fatalf("%d, %d: %d pages of %d", a, b, len(ownPages(t, g, root)), len(held(t, g)))
				}
			}
			m.delete(t, g, root, 1)
			m.put(t, g, root, 1, filled(i, a))
			m.delete(t, g, root, 1)
			m.wantDump(t, g, root)
		}
	}
}

// P14.2: all lengths up to some pieces.
func TestAllSizes(t *testing.T) {
	g, _ := fresh(t)
	root, m := create(t, g), model{}
	for n := range 1200 {
		m.put(t, g, root, 9, filled(n, n))
		m.wantGet(t, g, root, 9)
		m.wantNext(t, g, root, 8, false)
	}
	m.wantDump(t, g, root)
}

// P14.2: the least and the greatest key, and those about 0 and where bytes carry.
func TestKeys(t *testing.T) {
	g, _ := fresh(t)
	root, m := create(t, g), model{}
	keys := []int64{0, -1, 1, math.MaxInt64, math.MinInt64, math.MaxInt64 - 1, math.MinInt64 + 1, 127, 128, 255, 256, -128, -129,
		-256, -257, math.MaxInt32, math.MinInt32, math.MaxUint32, 1 << 32, -1 << 32, 1 << 40, -1 << 40}
	for _, k := range keys {
		m.wantAbout(t, g, root, k)
	}
	for i, k := range keys {
		m.put(t, g, root, k, filled(i, i))
		for _, q := range keys {
			m.wantAbout(t, g, root, q)
		}
	}
	m.wantDump(t, g, root)
	for _, k := range keys {
		m.delete(t, g, root, k)
		for _, q := range keys {
			m.wantAbout(t, g, root, q)
		}
		m.delete(t, g, root, k)
	}
	m.wantDump(t, g, root)
}

// orders tell in which order n keys come, or go.
func orders() map[string]func(i, n int) int {
	return map[string]func(i, n int) int{
		"rising":   func(i, n int) int { return i },
		"falling":  func(i, n int) int { return n - 1 - i },
		"inwards":  func(i, n int) int { return i/2 + i%2*(n-i) },
		"outwards": func(i, n int) int { return n/2 + (i+1)/2*(1-i%2*2) },
		"strewn":   func(i, n int) int { return i * 7919 % n },
	}
}

// P14.2, P14.4: keys that come and go in any order, on trees of several levels; without keys a tree has at most two pages.
func TestOrders(t *testing.T) {
	const n = 2000
	for come, first := range orders() {
		for gone, second := range orders() {
			g, _ := fresh(t)
			root, m := create(t, g), model{}
			for i := range n {
				k := int64(first(i, n))*3 - n
				m.put(t, g, root, k, filled(i, 20+i%7))
			}
			if len(m) != n {
				t.Fatalf("%s: %d keys", come, len(m))
			}
			m.wantDump(t, g, root)
			for i := range n {
				m.delete(t, g, root, int64(second(i, n))*3-n)
				if i%201 == 0 {
					m.wantDump(t, g, root)
					m.wantNext(t, g, root, int64(i*3-n), i%2 == 0)
				}
			}
			m.wantDump(t, g, root)
			if len(m) != 0 || len(ownPages(t, g, root)) > 2 || len(held(t, g)) > 2 {
				t.Errorf("%s, %s: %d keys, pages %v of %v", come, gone, len(m), ownPages(t, g, root), held(t, g))
			}
		}
	}
}

// P14.2: Next from every key, and from every one beside it, goes through the tree.
func TestNext(t *testing.T) {
	g, _ := fresh(t)
	root, m := create(t, g), model{}
	for i := range 700 {
		m.put(t, g, root, int64(i*7919%1009)*2-900, filled(i, i%130))
	}
	keys := m.keys()
	at := 0
	for q := keys[0] - 3; q < keys[len(keys)-1]+3; q++ {
		for at < len(keys) && keys[at] < q {
			at++
		}
		k, data, there, e := Next(g, root, q, true)
		if e != api.OK || there != (at < len(keys)) || there && (k != keys[at] || !bytes.Equal(data, m[k])) {
			t.Fatalf("Next %d: %d, %v, %v", q, k, there, e)
		}
		k, data, there, e = Next(g, root, q-1, false)
		if e != api.OK || there != (at < len(keys)) || there && (k != keys[at] || !bytes.Equal(data, m[k])) {
			t.Fatalf("Next %d: %d, %v, %v", q-1, k, there, e)
		}
	}
}

// P14.2: too long a record is refused, behind the errors of pages, and nothing has changed: the transaction has not written.
func TestTooLong(t *testing.T) {
	d, l := newDisk(t, nil), locks.New()
	p, q := open(t, d, api.ModeJournal, l, 0), open(t, d, api.ModeJournal, l, 1)
	g, h := pages.New(p), pages.New(q)
	want(t, "Begin", p.Begin(), api.OK)
	root, m := create(t, g), model{}
	for k := range 100 {
		m.put(t, g, root, int64(k), filled(k, 70))
	}
	want(t, "Commit", p.Commit(), api.OK)
	want(t, "Begin", p.Begin(), api.OK)
	before := image(t, p)
	for _, n := range []int{api.MaxRecord + 1, api.MaxRecord + 2, 1 << 15, 1 << 16, 1<<16 + 1, 1 << 20} {
		for _, k := range []int64{-1, 50, 100} {
			if was, e := Put(g, root, k, make([]byte, n)); was || e != api.ErrLimit {
				t.Errorf("%d, %d: %v, %v", n, k, was, e)
			}
		}
		for _, no := range []int{0, -1, root + 1000, api.MaxPages} {
			if was, e := Put(g, no, 1, make([]byte, n)); was || e != api.ErrForm {
				t.Errorf("%d, root %d: %v, %v", n, no, was, e)
			}
		}
		if was, e := Put(nil, root, 1, make([]byte, n)); was || e != api.ErrForm {
			t.Errorf("%d, nil: %v, %v", n, was, e)
		}
	}
	m.delete(t, g, root, -7)
	if !bytes.Equal(image(t, p), before) {
		t.Error("changed")
	}
	m.wantDump(t, g, root)
	want(t, "Begin", q.Begin(), api.OK)
	_, e := Put(h, root, 1, []byte("other"))
	want(t, "Put of the other one", e, api.OK)
	want(t, "Rollback", p.Rollback(), api.OK)
	_, e = Put(g, root, 1, make([]byte, api.MaxRecord+1))
	want(t, "Put without a transaction", e, api.ErrState)
}

// P14.4: trees side by side do not touch one another.
func TestSideBySide(t *testing.T) {
	g, p := fresh(t)
	r := rand.New(rand.NewSource(3))
	var roots []int
	var ms []model
	for range 5 {
		roots, ms = append(roots, create(t, g)), append(ms, model{})
	}
	for i := range 3000 {
		n, key := r.Intn(5), int64(r.Intn(200))
		if r.Intn(3) == 0 {
			ms[n].delete(t, g, roots[n], key)
		} else {
			ms[n].put(t, g, roots[n], key, filled(i, r.Intn(3)*r.Intn(300)))
		}
		if i%100 == 0 {
			wantApart(t, g, roots)
		}
	}
	for i, root := range roots {
		ms[i].wantDump(t, g, root)
	}
	want(t, "Commit", p.Commit(), api.OK)
	want(t, "Begin", p.Begin(), api.OK)
	for i, root := range roots {
		ms[i].wantDump(t, g, root)
		want(t, "Drop", Drop(g, root), api.OK)
		wantApart(t, g, roots[i+1:])
	}
}

// wantApart asks that the trees' pages are just the held ones, each of one tree.
func wantApart(t *testing.T, g *pages.Pages, roots []int) {
	t.Helper()
	var all []int
	for _, root := range roots {
		l := ownPages(t, g, root)
		if !slices.IsSorted(l) || !slices.Contains(l, root) {
			t.Fatalf("Pages %d: %v", root, l)
		}
		all = append(all, l...)
	}
	slices.Sort(all)
	if !slices.Equal(all, held(t, g)) {
		t.Fatalf("%v, held %v", all, held(t, g))
	}
}

// R4: ErrLimit of pages leaves everything as it was, to the last byte; what needs no page, or gives some back, is done.
func TestFull(t *testing.T) {
	g, p := fresh(t)
	root, m := create(t, g), model{}
	for k := range 400 {
		m.put(t, g, root, int64(k*2), filled(k, 60))
	}
	m.put(t, g, root, 100, filled(1, 5000))
	fill(t, g, 0)
	refused := 0
	for k := 0; refused < 10; k += 7 {
		key := int64(k%400*2 + 1)
		before := image(t, p)
		was, e := Put(g, root, key, filled(k, 60))
		if e == api.OK {
			m[key] = filled(k, 60)
			continue
		}
		refused++
		if was || e != api.ErrLimit || !bytes.Equal(image(t, p), before) {
			t.Fatalf("Put %d: %v, %v, or something changed", key, was, e)
		}
		for _, n := range []int{short + 1, 1000, api.MaxRecord} {
			if was, e := Put(g, root, key, filled(k, n)); was || e != api.ErrLimit || !bytes.Equal(image(t, p), before) {
				t.Fatalf("Put %d, %d bytes: %v, %v, or something changed", key, n, was, e)
			}
		}
	}
	m.put(t, g, root, 100, filled(2, 5000))
	m.put(t, g, root, 100, filled(3, 10*piece))
	if was, e := Put(g, root, 100, filled(3, 10*piece+1)); was || e != api.ErrLimit {
		t.Errorf("%v, %v", was, e)
	}
	m.put(t, g, root, 100, filled(4, 9*piece))
	m.put(t, g, root, 777, filled(5, 500))
	m.wantDump(t, g, root)
	for _, k := range m.keys() {
		m.delete(t, g, root, k)
	}
	m.wantDump(t, g, root)
	if len(ownPages(t, g, root)) > 2 {
		t.Errorf("%v", ownPages(t, g, root))
	}
}

// ErrLimit is told only if pages would be entitled to it: with one page fewer the same Put is done.
func TestJustEnough(t *testing.T) {
	for _, keys := range []int{0, 10, 11, 12, 100, 353} {
		for _, n := range []int{60, short + 1, 3*piece + 1, api.MaxRecord} {
			g, p := fresh(t)
			root, m := create(t, g), model{}
			for k := range keys {
				m.put(t, g, root, int64(k), filled(k, 60))
			}
			mark, _ := p.Mark()
			before := len(held(t, g))
			m.put(t, g, root, 1000, filled(1, n))
			need := len(held(t, g)) - before
			want(t, "Back", p.Back(mark), api.OK)
			fill(t, g, need)
			mark, _ = p.Mark()
			delete(m, 1000)
			m.put(t, g, root, 1000, filled(2, n))
			m.wantDump(t, g, root)
			want(t, "Back", p.Back(mark), api.OK)
			if need == 0 {
				continue
			}
			_, e := g.Alloc()
			want(t, "Alloc", e, api.OK)
			_, e = Put(g, root, 1000, filled(2, n))
			want(t, "Put", e, api.ErrLimit)
		}
	}
}

// Create is told what Alloc is told.
func TestNoRoot(t *testing.T) {
	g, p := fresh(t)
	for {
		if _, e := g.Alloc(); e != api.OK {
			want(t, "Alloc", e, api.ErrLimit)
			break
		}
	}
	before := image(t, p)
	if root, e := Create(g); root != 0 || e != api.ErrLimit || !bytes.Equal(image(t, p), before) {
		t.Errorf("%d, %v", root, e)
	}
}

// The errors of pages: ErrBusy, where another one is in a transaction that has written; nothing has changed.
func TestBusy(t *testing.T) {
	for _, mode := range []int{api.ModeJournal, api.ModeLog} {
		d, l := newDisk(t, nil), locks.New()
		p, q := open(t, d, mode, l, 0), open(t, d, mode, l, 1)
		g, h := pages.New(p), pages.New(q)
		want(t, "Begin", p.Begin(), api.OK)
		root, m := create(t, g), model{}
		for k := range 300 {
			m.put(t, g, root, int64(k), filled(k, k%120))
		}
		m.put(t, g, root, 7, filled(7, 3000))
		want(t, "Commit", p.Commit(), api.OK)
		want(t, "Begin", p.Begin(), api.OK)
		want(t, "Begin", q.Begin(), api.OK)
		_, e := Create(h)
		want(t, "Create", e, api.OK)
		before := image(t, p)
		wantAll(t, changes(g, root, 7), api.ErrBusy)
		if was, e := Put(g, root, 5000, filled(1, 3000)); was || e != api.ErrBusy {
			t.Errorf("Put: %v, %v", was, e)
		}
		if n, e := Create(g); n != 0 || e != api.ErrBusy {
			t.Errorf("Create: %d, %v", n, e)
		}
		m.delete(t, g, root, 5000)
		m.wantAbout(t, g, root, 7)
		m.wantDump(t, g, root)
		if !bytes.Equal(image(t, p), before) {
			t.Error("changed")
		}
		want(t, "Rollback", q.Rollback(), api.OK)
		m.put(t, g, root, 7, filled(1, 4))
		m.wantDump(t, g, root)
	}
}

// The errors of pages: without a transaction, of a nil file or one that New did not make, put out, in the dark.
func TestOutside(t *testing.T) {
	d := newDisk(t, nil, api.Trouble{At: 9, Kind: api.TroubleOff})
	p := open(t, d, api.ModeJournal, locks.New(), 0)
	g := pages.New(p)
	want(t, "Begin", p.Begin(), api.OK)
	root, m := create(t, g), model{}
	for k := range 50 {
		m.put(t, g, root, int64(k), filled(k, 100))
	}
	want(t, "Commit", p.Commit(), api.OK)
	wantAll(t, all(g, root, 1), api.ErrState)
	for _, g := range []*pages.Pages{nil, {}} {
		wantAll(t, all(g, root, 1), api.ErrForm)
	}
	wantAll(t, all(pages.New(&pager.Pager{}), root, 1), api.ErrIO)
	want(t, "Begin", p.Begin(), api.OK)
	m.wantDump(t, g, root)
	for d.Write("other", 0, []byte{1}) == api.OK {
	}
	wantAll(t, all(g, root, 1), api.ErrIO)
}

// A look at a tree in the dark tells the disk's error, wherever it comes.
func TestDark(t *testing.T) {
	g, p := fresh(t)
	root, m := create(t, g), model{}
	for k := range 50 {
		m.put(t, g, root, int64(k), filled(k, 100))
	}
	m.put(t, g, root, 7, filled(7, 3000))
	files := []api.File{{Name: "base", Data: image(t, p)}}
	for k := range 10 {
		d := newDisk(t, files, api.Trouble{At: 1, Kind: api.TroubleOff})
		p := open(t, d, api.ModeLog, locks.New(), 0)
		g := pages.New(p)
		want(t, "Begin", p.Begin(), api.OK)
		m.wantDump(t, g, root)
		darken(t, d)
		var e api.Errno
		switch k {
		case 0:
			_, _, e = Get(g, root, 7)
		case 1:
			_, _, _, e = Next(g, root, 7, true)
		case 2:
			_, e = Pages(g, root)
		case 3:
			_, _, e = Dump(g, root)
		case 4:
			_, e = Put(g, root, 7, nil)
		case 5:
			_, e = Put(g, root, 7, make([]byte, api.MaxRecord+1))
		case 6:
			_, e = Delete(g, root, 7)
		case 7:
			e = Drop(g, root)
		case 8:
			_, e = Create(g)
		case 9:
			_, e = Delete(g, root, 777)
		}
		want(t, "in the dark", e, api.ErrIO)
		wantAll(t, all(g, root, 7), api.ErrIO)
	}
}

func darken(t *testing.T, d *disk.Disk) {
	t.Helper()
	want(t, "disk.Write", d.Write("other", 0, []byte{1}), api.ErrIO)
}

// R2: what is handed in is neither changed nor kept.
func TestHandedIn(t *testing.T) {
	for _, n := range []int{1, short, short + 1, 2000} {
		g, _ := fresh(t)
		root := create(t, g)
		data := append(filled(1, n), 9, 9)[:n]
		if _, e := Put(g, root, 1, data); e != api.OK || !bytes.Equal(data[:n+2], append(filled(1, n), 9, 9)) {
			t.Errorf("%d: %v, or changed", n, e)
		}
		clear(data)
		model{1: filled(1, n)}.wantDump(t, g, root)
	}
}

// R2: what is told is new memory, spare room too.
func TestTold(t *testing.T) {
	g, _ := fresh(t)
	root, m := create(t, g), model{}
	for k := range 60 {
		m.put(t, g, root, int64(k), filled(k, k*5))
	}
	for k := range 60 {
		data, _, _ := Get(g, root, int64(k))
		spoil(data)
		_, data, _, _ = Next(g, root, int64(k), false)
		spoil(data)
	}
	keys, list, _ := Dump(g, root)
	at := ownPages(t, g, root)
	for i := range list {
		spoil(list[i])
		for j := i + 1; j < len(list); j++ {
			if !bytes.Equal(list[j], m[keys[j]]) {
				t.Fatalf("%d and %d share", i, j)
			}
		}
	}
	clear(keys[:cap(keys)])
	clear(list[:cap(list)])
	clear(at[:cap(at)])
	m.wantDump(t, g, root)
	wantApart(t, g, []int{root})
}

// spoil writes all over b, and over its spare room.
func spoil(b []byte) {
	b = b[:cap(b)]
	for i := range b {
		b[i] ^= 0x5a
	}
}

// A nil record and an empty one are one.
func TestNothing(t *testing.T) {
	g, p := fresh(t)
	h, q := fresh(t)
	a, b := create(t, g), create(t, h)
	model{}.put(t, g, a, 1, nil)
	model{}.put(t, h, b, 1, []byte{})
	if !bytes.Equal(image(t, p), image(t, q)) {
		t.Error("unlike")
	}
	model{1: nil}.wantDump(t, g, a)
	model{1: nil}.wantAbout(t, h, b, 1)
}

// A piece just fills a page, and the longest cell takes a quarter of one.
func TestRoom(t *testing.T) {
	if n := node.Room([][]byte{make([]byte, piece)}); n != 0 {
		t.Errorf("%d", n)
	}
	c := [][]byte{recordCell(1, short, make([]byte, short))}
	if n := draft.Cost(c); 4*n > node.Room(nil) || 4*(n+1) <= node.Room(nil) {
		t.Errorf("%d of %d", n, node.Room(nil))
	}
}

// P14.2, P14.4: as deep a tree as comes about, with nearly all pages that there are.
func TestDeep(t *testing.T) {
	g, p := fresh(t)
	root, m := create(t, g), model{}
	for k := range 11000 {
		m.put(t, g, root, int64(k), filled(k, short))
	}
	if n := levels(t, g, root); n != 4 || len(ownPages(t, g, root)) < 3700 {
		t.Errorf("%d levels, %d pages", n, len(ownPages(t, g, root)))
	}
	m.wantDump(t, g, root)
	want(t, "Commit", p.Commit(), api.OK)
	want(t, "Begin", p.Begin(), api.OK)
	for i := range 11000 {
		k := int64(i * 7919 % 11000)
		m.wantGet(t, g, root, k)
		m.delete(t, g, root, k)
		m.wantGet(t, g, root, k)
		if i%3000 == 0 {
			m.wantDump(t, g, root)
			m.wantAbout(t, g, root, k)
		}
	}
	m.wantDump(t, g, root)
	if l := ownPages(t, g, root); len(l) > 2 || len(held(t, g)) != len(l) {
		t.Errorf("%v", l)
	}
}

// A tree is shallow, and its pages are not left empty.
func TestPageCount(t *testing.T) {
	g, _ := fresh(t)
	root, m := create(t, g), model{}
	for k := range 4096 {
		m.put(t, g, root, int64(k), filled(k, 10))
	}
	if l := ownPages(t, g, root); len(l) > 4096*23*2/500+20 {
		t.Errorf("%d pages", len(l))
	}
	if n := levels(t, g, root); n != 3 {
		t.Errorf("%d levels", n)
	}
	r := rand.New(rand.NewSource(1))
	for _, k := range r.Perm(4096)[:4000] {
		m.delete(t, g, root, int64(k))
	}
	m.wantDump(t, g, root)
	if l := ownPages(t, g, root); len(l) > 96*23*4/500+3 {
		t.Errorf("%d pages", len(l))
	}
}

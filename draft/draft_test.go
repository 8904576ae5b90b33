package draft

import (
	"bytes"
	"slices"
	"testing"

	"cadastre/api"
	"cadastre/disk"
	"cadastre/locks"
	"cadastre/node"
	"cadastre/pager"
	"cadastre/pages"
)

func want(t *testing.T, what string, got, wanted api.Errno) {
	t.Helper()
	if got != wanted {
		t.Fatalf("%s: told %v, want %v", what, got, wanted)
	}
}

// two tells two pagers over one disk, the first one within a transaction.
func two(t *testing.T) (*pager.Pager, *pager.Pager) {
	t.Helper()
	d, e := disk.New(nil, nil)
	want(t, "disk.New", e, api.OK)
	l := locks.New()
	p, e := pager.Open(d, api.ModeJournal, l, 0)
	want(t, "Open", e, api.OK)
	q, e := pager.Open(d, api.ModeJournal, l, 1)
	want(t, "Open", e, api.OK)
	want(t, "Begin", p.Begin(), api.OK)
	return p, q
}

func fresh(t *testing.T) *pages.Pages {
	t.Helper()
	p, _ := two(t)
	return pages.New(p)
}

func held(t *testing.T, g *pages.Pages) []int {
	t.Helper()
	l, e := g.Held()
	want(t, "Held", e, api.OK)
	return l
}

// image tells all bytes of p's pages.
func image(t *testing.T, p *pager.Pager) []byte {
	t.Helper()
	var l []byte
	for n := range p.Count() {
		b, e := p.Read(n)
		want(t, "pager.Read", e, api.OK)
		l = append(l, b...)
	}
	return l
}

// filled tells n bytes that begin with c, no two pieces of them alike.
func filled(c, n int) []byte {
	b := make([]byte, n)
	for i := range b {
		b[i] = byte(c + i + i/251)
	}
	return b
}

// made tells a new page of that kind and next, without cells.
func made(g *pages.Pages, kind, next int) (int, api.Errno) {
	return Make(g, func(d *Draft) int { return d.New(kind, next) })
}

// Make, New: a page of that kind and next, without cells; the errors of pages, and nothing beside them.
func TestNew(t *testing.T) {
	g := fresh(t)
	for kind := range 5 {
		n, e := made(g, kind, 7*kind)
		want(t, "New", e, api.OK)
		if k, next, cells, e := On(g).Load(n); k != kind || next != 7*kind || cells != nil || e != api.OK {
			t.Errorf("%d: %d, %d, %v, %v", kind, k, next, cells, e)
		}
	}
	if len(held(t, g)) != 5 {
		t.Errorf("%v", held(t, g))
	}
	for {
		if _, e := g.Alloc(); e != api.OK {
			break
		}
	}
	if n, e := made(g, 1, 0); n != 0 || e != api.ErrLimit {
		t.Errorf("%d, %v", n, e)
	}
	if n, e := made(nil, 1, 0); n != 0 || e != api.ErrForm {
		t.Errorf("%d, %v", n, e)
	}
}

// Do: pages that are lacking are held, those that are left over are freed.
func TestDo(t *testing.T) {
	g := fresh(t)
	for give := range 4 {
		for take := range 4 {
			for again := range 3 {
				var given, taken []int
				for range give {
					n, e := made(g, 9, 0)
					want(t, "New", e, api.OK)
					given = append(given, n)
				}
				others := len(held(t, g)) - give
				calls := 0
				e := Do(g, func(d *Draft) {
					calls++
					taken = nil
					for i := range take {
						if i == again {
							d.Give(given...)
						}
						taken = append(taken, d.Take())
						d.Put(taken[i], 7, i, [][]byte{{byte(i)}})
					}
					if take <= again {
						d.Give(given...)
					}
				})
				want(t, "Do", e, api.OK)
				for i, n := range taken {
					if kind, next, cells, e := On(g).Load(n); kind != 7 || next != i || len(cells) != 1 || cells[0][0] != byte(i) || e != api.OK {
						t.Fatalf("%d, %d, %d: page %d: %d, %d, %v, %v", give, take, again, n, kind, next, cells, e)
					}
				}
				if calls > 2 || take == 0 && calls > 1 || len(held(t, g)) != others+take {
					t.Fatalf("%d, %d, %d: %d calls, %d held, want %d", give, take, again, calls, len(held(t, g)), others+take)
				}
				want(t, "Free", Free(g, taken), api.OK)
			}
		}
	}
	if len(held(t, g)) != 0 {
		t.Errorf("%v", held(t, g))
	}
}

// What was given last is taken first.
func TestTurn(t *testing.T) {
	d := &Draft{}
	d.Give(5, 6)
	d.Give(7)
	d.Give()
	got := []int{d.Take(), d.Take(), d.Take(), d.Take(), d.Take()}
	if !slices.Equal(got, []int{7, 5, 6, api.MaxPages, api.MaxPages + 1}) || d.lack != 2 {
		t.Errorf("%v, %d", got, d.lack)
	}
}

// A draft reads its pages as they will be, those too that are not held yet; what is put on a page last is there.
func TestAsItWillBe(t *testing.T) {
	g := fresh(t)
	n, e := made(g, 1, 0)
	want(t, "New", e, api.OK)
	long := filled(3, 3*Piece)
	plans := 0
	var first, second, other int
	var c []byte
	plan := func(d *Draft) {
		plans++
		first, second = d.New(5, 1), d.New(6, 2)
		d.Put(n, 7, first, [][]byte{{1}})
		d.Put(first, 8, second, [][]byte{{2}, {3}})
		d.Put(n, 9, second, [][]byte{{4}})
		c = d.Store(long)
		d.Give(second)
		other = d.New(11, 3)
		for _, x := range []struct{ at, kind, next, cells int }{{n, 9, second, 1}, {first, 8, second, 2}, {other, 11, 3, 0}} {
			if kind, next, cells, e := d.Load(x.at); kind != x.kind || next != x.next || len(cells) != x.cells || e != api.OK {
				t.Errorf("%d: %v: %d, %d, %v, %v", plans, x, kind, next, cells, e)
			}
		}
		if at, data, e := d.Read(c); len(at) != 3 || !bytes.Equal(data, long) || e != api.OK {
			t.Errorf("%d: %v, %d bytes, %v", plans, at, len(data), e)
		}
		if kind, _, _, e := On(g).Load(n); kind != 1 || e != api.OK {
			t.Errorf("%d: %d, %v", plans, kind, e)
		}
	}
	want(t, "Do", Do(g, plan), api.OK)
	if plans != 2 || other != second || len(held(t, g)) != 6 {
		t.Errorf("%d plans, %d, %d, %v", plans, other, second, held(t, g))
	}
	for _, x := range []struct{ at, kind, next, cells int }{{n, 9, second, 1}, {first, 8, second, 2}, {other, 11, 3, 0}} {
		if kind, next, cells, e := On(g).Load(x.at); kind != x.kind || next != x.next || len(cells) != x.cells || e != api.OK {
			t.Errorf("%v: %d, %d, %v, %v", x, kind, next, cells, e)
		}
	}
	if _, data, e := On(g).Read(c); !bytes.Equal(data, long) || e != api.OK {
		t.Errorf("%d bytes, %v", len(data), e)
	}
}

// What a draft reads is new memory.
func TestReadsAnew(t *testing.T) {
	g := fresh(t)
	want(t, "Do", Do(g, func(d *Draft) {
		n := d.New(1, 0)
		d.Put(n, 1, 0, [][]byte{{1, 2}, {3}})
		for range 2 {
			_, _, cells, e := d.Load(n)
			if e != api.OK || !slices.EqualFunc(cells, [][]byte{{1, 2}, {3}}, bytes.Equal) {
				t.Errorf("%v, %v", cells, e)
			}
			clear(cells[0])
		}
	}), api.OK)
}

// Beside an error nothing has changed, not even that the transaction has written: the first one is told.
func TestFail(t *testing.T) {
	p, q := two(t)
	g := pages.New(p)
	n, e := made(g, 1, 0)
	want(t, "New", e, api.OK)
	want(t, "Commit", p.Commit(), api.OK)
	want(t, "Begin", p.Begin(), api.OK)
	before := image(t, p)
	for _, plan := range []func(d *Draft){
		func(d *Draft) { d.Fail(api.ErrForm); d.Put(n, 2, 0, nil) },
		func(d *Draft) { d.Put(n, 2, 0, nil); d.Take(); d.Fail(api.ErrForm); d.Fail(api.ErrIO) },
		func(d *Draft) { d.Give(n); d.Fail(api.OK); d.Fail(api.ErrForm) },
		func(d *Draft) { d.Put(n, 256, 0, nil) },
		func(d *Draft) { d.Put(n, 2, -1, nil) },
	} {
		want(t, "Do", Do(g, plan), api.ErrForm)
	}
	want(t, "Do", Do(g, func(d *Draft) { d.Put(n, 2, 0, [][]byte{make([]byte, 600)}) }), api.ErrLimit)
	if !bytes.Equal(image(t, p), before) {
		t.Error("changed")
	}
	want(t, "Begin", q.Begin(), api.OK)
	want(t, "the other one's", Do(pages.New(q), func(d *Draft) { d.Put(n, 2, 0, nil) }), api.OK)
	for _, plan := range []func(d *Draft){
		func(d *Draft) { d.Put(n, 2, 0, nil); d.Give(n) },
		func(d *Draft) { d.Put(d.Take(), 2, 0, nil); d.Put(d.Take(), 2, 0, nil) },
		func(d *Draft) { d.Give(n) },
	} {
		want(t, "Do", Do(g, plan), api.ErrBusy)
	}
	if !bytes.Equal(image(t, p), before) {
		t.Error("changed")
	}
}

// ErrLimit is told where Alloc might be told it for one of the pages, ahead of the first one; what lacks none is done.
func TestEnough(t *testing.T) {
	p, _ := two(t)
	g := pages.New(p)
	for range api.MaxPages - 42 - 2 {
		_, e := g.Alloc()
		want(t, "Alloc", e, api.OK)
	}
	plan := func(many int) func(d *Draft) {
		return func(d *Draft) {
			for range many {
				d.Put(d.Take(), 1, 0, nil)
			}
		}
	}
	before := image(t, p)
	want(t, "Do", Do(g, plan(3)), api.ErrLimit)
	if !bytes.Equal(image(t, p), before) {
		t.Error("changed")
	}
	want(t, "Do", Do(g, plan(2)), api.OK)
	want(t, "Do", Do(g, plan(1)), api.ErrLimit)
	want(t, "Do", Do(g, func(d *Draft) { d.Give(1); d.Put(d.Take(), 5, 0, nil) }), api.OK)
	if kind, _, _, e := On(g).Load(1); kind != 5 || e != api.OK || len(held(t, g)) != api.MaxPages-42 {
		t.Errorf("%d, %v", kind, e)
	}
	want(t, "Do", Do(nil, plan(1)), api.ErrForm)
}

// Store, Read: they undo each other, whatever the length; many bytes lie on as few pages as hold them.
func TestStore(t *testing.T) {
	g := fresh(t)
	for n := range api.MaxRecord + 1 {
		if n > 1600 && n%501 > 2 && n < api.MaxRecord-1 {
			continue
		}
		var c []byte
		e := Do(g, func(d *Draft) { c = d.Store(filled(n, n)) })
		want(t, "Do", e, api.OK)
		at, data, e := On(g).Read(c)
		if e != api.OK || !bytes.Equal(data, filled(n, n)) || !IsCell(c) {
			t.Fatalf("%d: %d bytes, %v", n, len(data), e)
		}
		need := (n + Piece - 1) / Piece
		if n <= Short {
			need = 0
		}
		if len(at) != need || !slices.Equal(slices.Sorted(slices.Values(at)), held(t, g)) {
			t.Fatalf("%d: %v, held %v", n, at, held(t, g))
		}
		want(t, "Free", Free(g, at), api.OK)
		if at, data, e := On(g).Read(c); n > Short && (at != nil || data != nil || e != api.ErrForm) {
			t.Fatalf("%d: %v, %d bytes, %v", n, at, len(data), e)
		}
	}
}

// IsCell: as many bytes as it tells, or, of many, a page.
func TestIsCell(t *testing.T) {
	for _, x := range []struct {
		c  []byte
		ok bool
	}{
		{nil, false}, {[]byte{0}, false}, {[]byte{0, 0}, true}, {[]byte{0, 0, 0}, false}, {[]byte{0, 1}, false}, {[]byte{0, 1, 9}, true},
		{[]byte{0, 113, 0, 1}, false}, {[]byte{0, 114, 0, 1}, true}, {[]byte{0, 114, 0}, false}, {[]byte{0, 114, 0, 1, 0}, false},
		{append([]byte{0, 113}, make([]byte, 113)...), true}, {append([]byte{0, 114}, make([]byte, 114)...), false},
		{[]byte{0x40, 0, 0, 1}, true}, {[]byte{0x40, 1, 0, 1}, false}, {[]byte{0xff, 0xff, 0, 1}, false},
	} {
		if IsCell(x.c) != x.ok {
			t.Errorf("%v: %v", x.c, !x.ok)
		}
	}
}

// A piece just fills a page, and the longest cell, behind a row's number, takes a quarter of one.
func TestRoom(t *testing.T) {
	if n := node.Room([][]byte{make([]byte, Piece)}); n != 0 {
		t.Errorf("%d", n)
	}
	if n := Cost([][]byte{make([]byte, 8+2+Short)}); 4*n > node.Room(nil) || 4*(n+1) <= node.Room(nil) {
		t.Errorf("%d of %d", n, node.Room(nil))
	}
}

// Half: what is ahead takes half or more, but not without its last cell.
func TestHalf(t *testing.T) {
	for k := range 200 {
		var cells [][]byte
		for i := range 1 + k%30 {
			cells = append(cells, make([]byte, (i*k*7919+k)%100))
		}
		n := Half(cells)
		if 2*Cost(cells[:n]) < Cost(cells) || 2*Cost(cells[:n-1]) >= Cost(cells) {
			t.Errorf("%d: %d of %d", k, n, len(cells))
		}
	}
	if Half(nil) != 0 || Cost(nil) != 0 {
		t.Error("of nothing")
	}
}

// Number, Digits: the highest byte first.
func TestDigits(t *testing.T) {
	if b := Digits(0x0102030405060708, 3); !slices.Equal(b, []byte{6, 7, 8}) || Number(b) != 0x060708 {
		t.Errorf("%x", b)
	}
	for _, n := range []uint64{0, 1, 255, 256, 1 << 40, 1<<64 - 1} {
		if b := Digits(n, 8); Number(b) != n || len(b) != 8 {
			t.Errorf("%d: %x", n, b)
		}
	}
	if Number(nil) != 0 || len(Digits(5, 0)) != 0 {
		t.Error("of nothing")
	}
}

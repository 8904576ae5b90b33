package draft

import (
	"bytes"
	"slices"
	"testing"

	"cadastre/api"
	"cadastre/disk"
	"cadastre/locks"
	"cadastre/node"
	"cadastre/pager"
	"cadastre/pages"
)

func want(t *testing.T, what string, got, wanted api.Errno) {
	t.Helper()
	if got != wanted {
		t.Fatalf("%s: told %v, want %v", what, got, wanted)
	}
}

// two tells two pagers over one disk, the first one within a transaction.
func two(t *testing.T) (*pager.Pager, *pager.Pager) {
	t.Helper()
	d, e := disk.New(nil, nil)
	want(t, "disk.New", e, api.OK)
	l := locks.New()
	p, e := pager.Open(d, api.ModeJournal, l, 0)
	want(t, "Open", e, api.OK)
	q, e := pager.Open(d, api.ModeJournal, l, 1)
	want(t, "Open", e, api.OK)
	want(t, "Begin", p.Begin(), api.OK)
	return p, q
}

func fresh(t *testing.T) *pages.Pages {
	t.Helper()
	p, _ := two(t)
	return pages.New(p)
}

func held(t *testing.T, g *pages.Pages) []int {
	t.Helper()
	l, e := g.Held()
	want(t, "Held", e, api.OK)
	return l
}

// image tells all bytes of p's pages.
func image(t *testing.T, p *pager.Pager) []byte {
	t.Helper()
	var l []byte
	for n := range p.Count() {
		b, e := p.Read(n)
		want(t, "pager.Read", e, api.OK)
		l = append(l, b...)
	}
	return l
}

// filled tells n bytes that begin with c, no two pieces of them alike.
func filled(c, n int) []byte {
	b := make([]byte, n)
	for i := range b {
		b[i] = byte(c + i + i/251)
	}
	return b
}

// New: a page of that kind, without cells; the errors of pages.
func TestNew(t *testing.T) {
	g := fresh(t)
	for kind := range 5 {
		n, e := New(g, kind)
		want(t, "New", e, api.OK)
		if k, next, cells, e := Load(g, n); k != kind || next != 0 || cells != nil || e != api.OK {
			t.Errorf("%d: %d, %d, %v, %v", kind, k, next, cells, e)
		}
	}
	if len(held(t, g)) != 5 {
		t.Errorf("%v", held(t, g))
	}
	for {
		if _, e := g.Alloc(); e != api.OK {
			break
		}
	}
	if n, e := New(g, 1); n != 0 || e != api.ErrLimit {
		t.Errorf("%d, %v", n, e)
	}
	if n, e := New(nil, 1); n != 0 || e != api.ErrForm {
		t.Errorf("%d, %v", n, e)
	}
}

// Do: pages that are lacking are held, those that are left over are freed.
func TestDo(t *testing.T) {
	g := fresh(t)
	for give := range 4 {
		for take := range 4 {
			for again := range 3 {
				var given, taken []int
				for range give {
					n, e := New(g, 9)
					want(t, "New", e, api.OK)
					given = append(given, n)
				}
				others := len(held(t, g)) - give
				calls := 0
				e := Do(g, func(d *Draft) {
					calls++
					taken = nil
					for i := range take {
						if i == again {
							d.Give(given...)
						}
						taken = append(taken, d.Take())
						d.Put(taken[i], 7, i, [][]byte{{byte(i)}})
					}
					if take <= again {
						d.Give(given...)
					}
				})
				want(t, "Do", e, api.OK)
				for i, n := range taken {
					if kind, next, cells, e := Load(g, n); kind != 7 || next != i || len(cells) != 1 || cells[0][0] != byte(i) || e != api.OK {
						t.Fatalf("%d, %d, %d: page %d: %d, %d, %v, %v", give, take, again, n, kind, next, cells, e)
					}
				}
				if calls > 2 || take == 0 && calls > 1 || len(held(t, g)) != others+take {
					t.Fatalf("%d, %d, %d: %d calls, %d held, want %d", give, take, again, calls, len(held(t, g)), others+take)
				}
				want(t, "Free", Free(g, taken), api.OK)
			}
		}
	}
	if len(held(t, g)) != 0 {
		t.Errorf("%v", held(t, g))
	}
}

// What was given last is taken first.
func TestTurn(t *testing.T) {
	d := &Draft{}
	d.Give(5, 6)
	d.Give(7)
	d.Give()
	got := []int{d.Take(), d.Take(), d.Take(), d.Take(), d.Take()}
	if !slices.Equal(got, []int{7, 5, 6, 0, 0}) || d.lack != 2 {
		t.Errorf("%v, %d", got, d.lack)
	}
}

// Beside an error nothing has changed, not even that the transaction has written: the first one is told.
func TestFail(t *testing.T) {
	p, q := two(t)
	g := pages.New(p)
	n, e := New(g, 1)
	want(t, "New", e, api.OK)
	want(t, "Commit", p.Commit(), api.OK)
	want(t, "Begin", p.Begin(), api.OK)
	before := image(t, p)
	for _, plan := range []func(d *Draft){
		func(d *Draft) { d.Fail(api.ErrForm); d.Put(n, 2, 0, nil) },
		func(d *Draft) { d.Put(n, 2, 0, nil); d.Take(); d.Fail(api.ErrForm); d.Fail(api.ErrIO) },
		func(d *Draft) { d.Give(n); d.Fail(api.OK); d.Fail(api.ErrForm) },
		func(d *Draft) { d.Put(n, 256, 0, nil) },
		func(d *Draft) { d.Put(n, 2, -1, nil) },
	} {
		want(t, "Do", Do(g, plan), api.ErrForm)
	}
	want(t, "Do", Do(g, func(d *Draft) { d.Put(n, 2, 0, [][]byte{make([]byte, 600)}) }), api.ErrLimit)
	if !bytes.Equal(image(t, p), before) {
		t.Error("changed")
	}
	want(t, "Begin", q.Begin(), api.OK)
	want(t, "the other one's", Do(pages.New(q), func(d *Draft) { d.Put(n, 2, 0, nil) }), api.OK)
	for _, plan := range []func(d *Draft){
		func(d *Draft) { d.Put(n, 2, 0, nil); d.Give(n) },
		func(d *Draft) { d.Put(d.Take(), 2, 0, nil); d.Put(d.Take(), 2, 0, nil) },
		func(d *Draft) { d.Give(n) },
	} {
		want(t, "Do", Do(g, plan), api.ErrBusy)
	}
	if !bytes.Equal(image(t, p), before) {
		t.Error("changed")
	}
}

// ErrLimit is told where Alloc might be told it for one of the pages, ahead of the first one; what lacks none is done.
func TestEnough(t *testing.T) {
	p, _ := two(t)
	g := pages.New(p)
	for range api.MaxPages - 42 - 2 {
		_, e := g.Alloc()
		want(t, "Alloc", e, api.OK)
	}
	plan := func(many int) func(d *Draft) {
		return func(d *Draft) {
			for range many {
				d.Put(d.Take(), 1, 0, nil)
			}
		}
	}
	before := image(t, p)
	want(t, "Do", Do(g, plan(3)), api.ErrLimit)
	if !bytes.Equal(image(t, p), before) {
		t.Error("changed")
	}
	want(t, "Do", Do(g, plan(2)), api.OK)
	want(t, "Do", Do(g, plan(1)), api.ErrLimit)
	want(t, "Do", Do(g, func(d *Draft) { d.Give(1); d.Put(d.Take(), 5, 0, nil) }), api.OK)
	if kind, _, _, e := Load(g, 1); kind != 5 || e != api.OK || len(held(t, g)) != api.MaxPages-42 {
		t.Errorf("%d, %v", kind, e)
	}
	want(t, "Do", Do(nil, plan(1)), api.ErrForm)
}

// Store, Read: they undo each other, whatever the length; many bytes lie on as few pages as hold them.
func TestStore(t *testing.T) {
	g := fresh(t)
	for n := range api.MaxRecord + 1 {
		if n > 1600 && n%501 > 2 && n < api.MaxRecord-1 {
			continue
		}
		var c []byte
		e := Do(g, func(d *Draft) { c = d.Store(filled(n, n)) })
		want(t, "Do", e, api.OK)
		at, data, e := Read(g, c)
		if e != api.OK || !bytes.Equal(data, filled(n, n)) || !IsCell(c) {
			t.Fatalf("%d: %d bytes, %v", n, len(data), e)
		}
		need := (n + Piece - 1) / Piece
		if n <= Short {
			need = 0
		}
		if len(at) != need || !slices.Equal(slices.Sorted(slices.Values(at)), held(t, g)) {
			t.Fatalf("%d: %v, held %v", n, at, held(t, g))
		}
		want(t, "Free", Free(g, at), api.OK)
		if at, data, e := Read(g, c); n > Short && (at != nil || data != nil || e != api.ErrForm) {
			t.Fatalf("%d: %v, %d bytes, %v", n, at, len(data), e)
		}
	}
}

// IsCell: as many bytes as it tells, or, of many, a page.
func TestIsCell(t *testing.T) {
	for _, x := range []struct {
		c  []byte
		ok bool
	}{
		{nil, false}, {[]byte{0}, false}, {[]byte{0, 0}, true}, {[]byte{0, 0, 0}, false}, {[]byte{0, 1}, false}, {[]byte{0, 1, 9}, true},
		{[]byte{0, 113, 0, 1}, false}, {[]byte{0, 114, 0, 1}, true}, {[]byte{0, 114, 0}, false}, {[]byte{0, 114, 0, 1, 0}, false},
		{append([]byte{0, 113}, make([]byte, 113)...), true}, {append([]byte{0, 114}, make([]byte, 114)...), false},
		{[]byte{0x40, 0, 0, 1}, true}, {[]byte{0x40, 1, 0, 1}, false}, {[]byte{0xff, 0xff, 0, 1}, false},
	} {
		if IsCell(x.c) != x.ok {
			t.Errorf("%v: %v", x.c, !x.ok)
		}
	}
}

// A piece just fills a page, and the longest cell, behind a row's number, takes a quarter of one.
func TestRoom(t *testing.T) {
	if n := node.Room([][]byte{make([]byte, Piece)}); n != 0 {
		t.Errorf("%d", n)
	}
	if n := Cost([][]byte{make([]byte, 8+2+Short)}); 4*n > node.Room(nil) || 4*(n+1) <= node.Room(nil) {
		t.Errorf("%d of %d", n, node.Room(nil))
	}
}

// Half: what is ahead takes half or more, but not without its last cell.
func TestHalf(t *testing.T) {
	for k := range 200 {
		var cells [][]byte
		for i := range 1 + k%30 {
			cells = append(cells, make([]byte, (i*k*7919+k)%100))
		}
		n := Half(cells)
		if 2*Cost(cells[:n]) < Cost(cells) || 2*Cost(cells[:n-1]) >= Cost(cells) {
			t.Errorf("%d: %d of %d", k, n, len(cells))
		}
	}
	if Half(nil) != 0 || Cost(nil) != 0 {
		t.Error("of nothing")
	}
}

// Number, Digits: the highest byte first.
func TestDigits(t *testing.T) {
	if b := Digits(0x0102030405060708, 3); !slices.Equal(b, []byte{6, 7, 8}) || Number(b) != 0x060708 {
		t.Errorf("%x", b)
	}
	for _, n := range []uint64{0, 1, 255, 256, 1 << 40, 1<<64 - 1} {
		if b := Digits(n, 8); Number(b) != n || len(b) != 8 {
			t.Errorf("%d: %x", n, b)
		}
	}
	if Number(nil) != 0 || len(Digits(5, 0)) != 0 {
		t.Error("of nothing")
	}
}

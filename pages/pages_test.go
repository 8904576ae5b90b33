package pages

import (
	"bytes"
	"math"
	"math/rand"
	"slices"
	"testing"

	"cadastre/api"
	"cadastre/locks"
	"cadastre/pager"
)

// P13.1: New changes nothing, and may be called without a transaction; of nil it tells nil.
func TestNew(t *testing.T) {
	if New(nil) != nil {
		t.Error("New(nil)")
	}
	d := newDisk(t, nil)
	p := open(t, d, api.ModeJournal, locks.New(), 0)
	g := New(p)
	want(t, "Begin", p.Begin(), api.OK)
	if g == nil || p.Count() != 0 || d.Strokes() != 0 {
		t.Errorf("%v, %d pages, %d strokes", g, p.Count(), d.Strokes())
	}
	wantHeld(t, g, nil)
}

// P13.1: a file of pages keeps nothing itself: two over one pager are one.
func TestKeepsNothing(t *testing.T) {
	g, p := over(t, nil)
	h := New(p)
	a := alloc(t, g)
	want(t, "Write", h.Write(a, page(1)), api.OK)
	want(t, "SetRoot", h.SetRoot(2, a), api.OK)
	b := alloc(t, h)
	wantPage(t, g, a, page(1))
	wantPage(t, g, b, noughts())
	wantRoots(t, g, [8]int{2: a})
	want(t, "Free", h.Free(a), api.OK)
	want(t, "Free", g.Free(a), api.ErrForm)
	wantHeld(t, g, []int{b})
	m, _ := p.Mark()
	want(t, "Free", g.Free(b), api.OK)
	want(t, "SetRoot", g.SetRoot(2, 9), api.OK)
	want(t, "Back", p.Back(m), api.OK)
	wantHeld(t, h, []int{b})
	wantRoots(t, h, [8]int{2: a})
	want(t, "Rollback", p.Rollback(), api.OK)
	want(t, "Begin", p.Begin(), api.OK)
	wantHeld(t, g, nil)
	wantRoots(t, g, [8]int{})
}

// Of a nil file, and of one that New did not make, every call tells ErrForm.
func TestNil(t *testing.T) {
	wantAll(t, nil, 1, api.ErrForm)
	wantAll(t, &Pages{}, 1, api.ErrForm)
}

// The pager's errors go ahead of what is wrong with a number or a page.
func TestOutside(t *testing.T) {
	d := newDisk(t, nil, api.Trouble{At: 1, Kind: api.TroubleIO})
	p := open(t, d, api.ModeJournal, locks.New(), 0)
	g := New(p)
	wantAll(t, g, 1, api.ErrState)
	want(t, "Begin", p.Begin(), api.OK)
	n := alloc(t, g)
	wantPage(t, g, n, noughts())
	want(t, "Commit", p.Commit(), api.ErrIO)
	wantAll(t, g, n, api.ErrIO)
	wantAll(t, New(&pager.Pager{}), n, api.ErrIO)
}

// Without power a call that has to look tells the disk's error, and from then on all do.
func TestDark(t *testing.T) {
	files := []api.File{{Name: "base", Data: page(0xff)}}
	for k := range 7 {
		d := newDisk(t, files, api.Trouble{At: 1, Kind: api.TroubleOff})
		p := open(t, d, api.ModeJournal, locks.New(), 0)
		g := New(p)
		want(t, "Begin", p.Begin(), api.OK)
		wantPage(t, g, 5, noughts())
		want(t, "disk.Write", d.Write("other", 0, []byte{1}), api.ErrIO)
		var e api.Errno
		switch k {
		case 0:
			_, e = g.Alloc()
		case 1:
			e = g.Free(5)
		case 2:
			_, e = g.Held()
		case 3:
			_, e = g.Root(8)
		case 4:
			e = g.SetRoot(8, 0)
		case 5:
			_, e = g.Read(-1)
		case 6:
			e = g.Write(-1, nil)
		}
		want(t, "in the dark", e, api.ErrIO)
		wantAll(t, g, 5, api.ErrIO)
	}
}

// Without pages, and where page 0 is noughts, nothing is held and all roots are 0, whatever else lies there.
func TestNothing(t *testing.T) {
	full := bytes.Repeat([]byte{0xff}, api.MaxPages*api.PageSize)
	clear(full[:api.PageSize])
	for _, data := range [][]byte{nil, full[:api.PageSize], full[:5*api.PageSize], full} {
		g, p := over(t, data)
		wantHeld(t, g, nil)
		wantRoots(t, g, [8]int{})
		for n := -1; n <= api.MaxPages; n++ {
			want(t, "Free", g.Free(n), api.ErrForm)
			want(t, "Write", g.Write(n, noughts()), api.ErrForm)
			b, e := g.Read(n)
			if want(t, "Read", e, api.ErrForm); b != nil {
				t.Fatalf("Read %d: %x", n, b)
			}
		}
		if !bytes.Equal(image(t, p), data) {
			t.Error("what was told ErrForm changed something")
		}
		var held []int
		for len(held) < enough {
			n := alloc(t, g)
			wantPage(t, g, n, noughts())
			held = append(held, n)
		}
		slices.Sort(held)
		wantHeld(t, g, held)
		wantRoots(t, g, [8]int{})
	}
}

// P13.2, P13.3: Alloc tells new pages of noughts up to the limit; each is counted, and the pager has not too many.
func TestAllocToTheLimit(t *testing.T) {
	g, p := over(t, nil)
	want(t, "SetRoot", g.SetRoot(7, 4095), api.OK)
	held := map[int]bool{}
	for {
		n, e := g.Alloc()
		if e != api.OK {
			if e != api.ErrLimit || n != 0 || len(held) < enough {
				t.Fatalf("Alloc: %d, %v with %d held", n, e, len(held))
			}
			break
		}
		if n < 1 || n >= api.MaxPages || held[n] {
			t.Fatalf("Alloc: %d", n)
		}
		held[n] = true
		wantPage(t, g, n, noughts())
		want(t, "Write", g.Write(n, page(byte(n))), api.OK)
		if p.Count() > atMost(len(held)) {
			t.Fatalf("%d pages with %d held", p.Count(), len(held))
		}
	}
	was := image(t, p)
	for range 3 {
		if n, e := g.Alloc(); n != 0 || e != api.ErrLimit {
			t.Fatalf("Alloc: %d, %v", n, e)
		}
	}
	if !bytes.Equal(image(t, p), was) {
		t.Error("ErrLimit changed something")
	}
	l, _ := g.Held()
	for _, n := range l {
		if !held[n] {
			t.Fatalf("%d is held", n)
		}
		wantPage(t, g, n, page(byte(n)))
	}
	if len(l) != len(held) {
		t.Errorf("%d held, want %d", len(l), len(held))
	}
	wantRoots(t, g, [8]int{7: 4095})
	freeAndAlloc(t, g, l)
}

// freeAndAlloc frees each of the held pages l, where no other one is left, and asks for it again; then all of them.
func freeAndAlloc(t *testing.T, g *Pages, l []int) {
	t.Helper()
	for _, n := range l {
		want(t, "Free", g.Free(n), api.OK)
		if x, e := g.Alloc(); x != n || e != api.OK {
			t.Fatalf("Alloc: %d, %v, want %d", x, e, n)
		}
		wantPage(t, g, n, noughts())
	}
	wantHeld(t, g, l)
	for i, n := range l {
		want(t, "Free", g.Free(n), api.OK)
		if i%500 == 0 {
			wantHeld(t, g, l[i+1:])
		}
	}
	wantHeld(t, g, nil)
	wantRoots(t, g, [8]int{7: 4095})
	if again := allocMany(t, g, len(l)); !slices.Equal(again, l) {
		t.Error("other pages")
	}
	_, e := g.Alloc()
	want(t, "Alloc", e, api.ErrLimit)
}

// P13.2: Free lets go what is held, once; it and what is not held cannot be read or written.
func TestFree(t *testing.T) {
	for _, many := range []int{1, 7, 8, 9, 300, enough} {
		g, p := over(t, nil)
		l := allocMany(t, g, many)
		for _, n := range l {
			want(t, "Write", g.Write(n, page(byte(n)|1)), api.OK)
		}
		for _, i := range []int{many - 1, many / 2, 0} {
			at, found := slices.BinarySearch(l, l[min(i, len(l)-1)])
			if !found {
				t.Fatal("not held")
			}
			n := l[at]
			want(t, "Free", g.Free(n), api.OK)
			l = slices.Delete(l, at, at+1)
			was := image(t, p)
			b, e := g.Read(n)
			if want(t, "Read", e, api.ErrForm); b != nil {
				t.Errorf("Read %d: %x", n, b)
			}
			want(t, "Write", g.Write(n, noughts()), api.ErrForm)
			want(t, "Free", g.Free(n), api.ErrForm)
			if !bytes.Equal(image(t, p), was) {
				t.Error("ErrForm changed something")
			}
			wantHeld(t, g, l)
			if len(l) == 0 {
				break
			}
		}
		for _, n := range l {
			wantPage(t, g, n, page(byte(n)|1))
		}
	}
}

// P13.2: numbers that are no held page's.
func TestWrongNumbers(t *testing.T) {
	for _, many := range []int{0, 3, api.MaxPages - 2} {
		g, p := over(t, nil)
		held := allocMany(t, g, many)
		was := image(t, p)
		for _, n := range []int{0, -1, -8, api.MaxPages, api.MaxPages + 1, 2 * api.MaxPages, 1 << 31, 1 << 32, math.MaxInt, math.MinInt} {
			b, e := g.Read(n)
			if want(t, "Read", e, api.ErrForm); b != nil {
				t.Errorf("Read %d: %x", n, b)
			}
			want(t, "Write", g.Write(n, noughts()), api.ErrForm)
			want(t, "Free", g.Free(n), api.ErrForm)
		}
		if !bytes.Equal(image(t, p), was) {
			t.Error("ErrForm changed something")
		}
		wantHeld(t, g, held)
	}
}

// P13.2: roots are any numbers below MaxPages, apart from one another and from what is held.
func TestRoots(t *testing.T) {
	g, p := over(t, nil)
	wantRoots(t, g, [8]int{})
	held := allocMany(t, g, 20)
	var roots [8]int
	for k, n := range []int{4095, 1, 0, 255, 256, 2048, 4094, 3, 0xf0f, 0xff, 0xf00, 0, 17} {
		for i := range roots {
			roots[(i*3+k)%8] = n
			want(t, "SetRoot", g.SetRoot((i*3+k)%8, n), api.OK)
			wantRoots(t, g, roots)
		}
		wantHeld(t, g, held)
	}
	for i := range roots {
		roots[i] = 4095 - i
		want(t, "SetRoot", g.SetRoot(i, roots[i]), api.OK)
	}
	was := image(t, p)
	for _, i := range []int{8, -1, 9, 256, math.MaxInt, math.MinInt} {
		n, e := g.Root(i)
		if want(t, "Root", e, api.ErrForm); n != 0 {
			t.Errorf("Root %d: %d", i, n)
		}
		want(t, "SetRoot", g.SetRoot(i, 1), api.ErrForm)
	}
	for _, n := range []int{-1, 4096, 1 << 16, math.MaxInt, math.MinInt} {
		want(t, "SetRoot", g.SetRoot(3, n), api.ErrForm)
	}
	if !bytes.Equal(image(t, p), was) {
		t.Error("ErrForm changed something")
	}
	wantRoots(t, g, roots)
	wantHeld(t, g, held)
}

// P13.2: Read and Write are the pager's; R2: what is handed in and told is nobody else's.
func TestReadWrite(t *testing.T) {
	g, p := over(t, nil)
	a, b := alloc(t, g), alloc(t, g)
	mine := page('a')
	want(t, "Write", g.Write(a, mine), api.OK)
	clear(mine)
	wantPage(t, g, a, page('a'))
	wantPage(t, g, b, noughts())
	one, _ := g.Read(a)
	clear(one)
	_ = append(one[:0:cap(one)], page('x')...)
	wantPage(t, g, a, page('a'))
	for _, many := range []int{0, 1, api.PageSize - 1, api.PageSize + 1} {
		want(t, "Write", g.Write(a, make([]byte, many)), api.ErrForm)
	}
	wantPage(t, g, a, page('a'))
	if c, e := p.Read(a); e != api.OK || !bytes.Equal(c, page('a')) {
		t.Errorf("the pager's: %x, %v", c, e)
	}
	l, _ := g.Held()
	l[0], l[1] = 77, 78
	_ = append(l, 79)
	wantHeld(t, g, []int{min(a, b), max(a, b)})
}

// P13.2: what another connection's transaction is in the way of is told ErrBusy, and changes nothing.
func TestBusy(t *testing.T) {
	for _, many := range []int{5, 3967, 3968} {
		d, l := newDisk(t, nil), locks.New()
		p, q := open(t, d, api.ModeJournal, l, 0), open(t, d, api.ModeJournal, l, 1)
		g, h := New(p), New(q)
		want(t, "Begin", p.Begin(), api.OK)
		held := allocMany(t, g, many)
		want(t, "Commit", p.Commit(), api.OK)
		want(t, "Begin", p.Begin(), api.OK)
		want(t, "Begin", q.Begin(), api.OK)
		want(t, "SetRoot", g.SetRoot(0, 3), api.OK)
		was := image(t, q)
		n, e := h.Alloc()
		if want(t, "Alloc", e, api.ErrBusy); n != 0 {
			t.Errorf("Alloc: %d", n)
		}
		want(t, "Free", h.Free(held[0]), api.ErrBusy)
		want(t, "SetRoot", h.SetRoot(0, 1), api.ErrBusy)
		want(t, "Write", h.Write(held[0], page(1)), api.ErrBusy)
		want(t, "Free", h.Free(0), api.ErrForm)
		want(t, "SetRoot", h.SetRoot(8, 1), api.ErrForm)
		want(t, "Write", h.Write(api.MaxPages-1, page(1)), api.ErrForm)
		if !bytes.Equal(image(t, q), was) {
			t.Error("ErrBusy changed something")
		}
		wantHeld(t, h, held)
		wantRoots(t, h, [8]int{})
		want(t, "Rollback", p.Rollback(), api.OK)
		held = append(held, alloc(t, h))
		slices.Sort(held)
		wantHeld(t, h, held)
	}
}

// Whoever only looks writes nothing: another connection may.
func TestLooksAlone(t *testing.T) {
	d, l := newDisk(t, nil), locks.New()
	p, q := open(t, d, api.ModeJournal, l, 0), open(t, d, api.ModeJournal, l, 1)
	g, h := New(p), New(q)
	want(t, "Begin", p.Begin(), api.OK)
	n := alloc(t, g)
	want(t, "Commit", p.Commit(), api.OK)
	want(t, "Begin", p.Begin(), api.OK)
	want(t, "Begin", q.Begin(), api.OK)
	wantHeld(t, h, []int{n})
	wantRoots(t, h, [8]int{})
	wantPage(t, h, n, noughts())
	want(t, "Free", h.Free(n+1), api.ErrForm)
	want(t, "Write", h.Write(n+1, noughts()), api.ErrForm)
	want(t, "Write", h.Write(n, nil), api.ErrForm)
	want(t, "SetRoot", h.SetRoot(0, -1), api.ErrForm)
	alloc(t, g)
}

// R1: whatever page 0 has, all calls end, and what they tell goes together.
func TestAnyBytes(t *testing.T) {
	r := rand.New(rand.NewSource(13))
	for k := range 200 {
		data := make([]byte, api.PageSize*[]int{1, 2, 50, api.MaxPages}[k%4])
		switch k / 4 % 4 {
		case 0:
			r.Read(data)
		case 1:
			copy(data, bytes.Repeat([]byte{0xff}, len(data)))
		case 2:
			copy(data, bytes.Repeat([]byte{0x55}, len(data)))
		case 3:
			for range 10 {
				data[r.Intn(len(data))] = byte(1 << r.Intn(8))
				data[r.Intn(api.PageSize)] ^= byte(1 << r.Intn(8))
			}
		}
		anyBytes(t, r, data)
	}
}

func anyBytes(t *testing.T, r *rand.Rand, data []byte) {
	t.Helper()
	g, _ := over(t, data)
	held, e := g.Held()
	if e != api.OK || !slices.IsSorted(held) || len(slices.Compact(slices.Clone(held))) != len(held) {
		t.Fatalf("%v, %v", held, e)
	}
	var roots [8]int
	for i := range roots {
		roots[i], e = g.Root(i)
		if e != api.OK || roots[i] < 0 || roots[i] >= api.MaxPages {
			t.Fatalf("Root %d: %d, %v", i, roots[i], e)
		}
	}
	for n := -1; n <= api.MaxPages; n++ {
		wanted := api.OK
		if _, found := slices.BinarySearch(held, n); !found {
			wanted = api.ErrForm
		}
		b, e := g.Read(n)
		if want(t, "Read", e, wanted); wanted == api.OK && len(b) != api.PageSize {
			t.Fatalf("%d bytes", len(b))
		}
	}
	for range 40 {
		if len(held) > 0 && r.Intn(2) == 0 {
			i := r.Intn(len(held))
			want(t, "Free", g.Free(held[i]), api.OK)
			held = slices.Delete(held, i, i+1)
		} else if n, e := g.Alloc(); e == api.OK {
			i, found := slices.BinarySearch(held, n)
			if found || n < 1 || n >= api.MaxPages {
				t.Fatalf("Alloc: %d", n)
			}
			held = slices.Insert(held, i, n)
			wantPage(t, g, n, noughts())
		} else if e != api.ErrLimit || len(held) < enough {
			t.Fatalf("Alloc: %v with %d held", e, len(held))
		}
		i := r.Intn(8)
		roots[i] = r.Intn(api.MaxPages)
		want(t, "SetRoot", g.SetRoot(i, roots[i]), api.OK)
		wantHeld(t, g, held)
		wantRoots(t, g, roots)
	}
}

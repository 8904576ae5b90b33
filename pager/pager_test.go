package pager

import (
	"bytes"
	"fmt"
	"math"
	"strings"
	"testing"

	"cadastre/api"
	"cadastre/disk"
	"cadastre/locks"
)

// The chapter's example.
func TestExample(t *testing.T) {
	for _, mode := range modes() {
		d := newDisk(t, nil)
		p := open(t, d, mode)
		begin(t, p)
		write(t, p, 0, 7)
		commit(t, p)
		for _, other := range modes() {
			q := open(t, newDisk(t, d.Crash(nil)), other)
			begin(t, q)
			if b, e := q.Read(0); e != api.OK || !bytes.Equal(b, page(7)) {
				t.Errorf("%x, %v", b, e)
			}
		}
	}
}

// P12.1: what is not of its form.
func TestOpenForm(t *testing.T) {
	d, l := newDisk(t, nil), locks.New()
	for i, c := range []struct {
		d    *disk.Disk
		mode int
		l    *locks.Table
		c    int
	}{
		{nil, api.ModeJournal, l, 0}, {nil, api.ModeLog, l, 0}, {d, api.ModeLog, nil, 0}, {nil, 0, nil, -1},
		{d, api.ModeNone, l, 0}, {d, -1, l, 0}, {d, 3, l, 0}, {d, math.MaxInt, l, 0}, {d, math.MinInt, l, 0},
		{d, api.ModeLog, l, -1}, {d, api.ModeLog, l, api.Conns}, {d, api.ModeJournal, l, math.MaxInt}, {d, api.ModeJournal, l, math.MinInt},
	} {
		if p, e := Open(c.d, c.mode, c.l, c.c); p != nil || e != api.ErrForm {
			t.Errorf("%d: %v, %v", i, p, e)
		}
	}
	for c := range api.Conns {
		wantCommitted(t, openConn(t, d, api.ModeLog, l, c), "")
		wantLevel(t, l, c, api.LockNone)
	}
	if d.Strokes() != 0 {
		t.Errorf("%d strokes", d.Strokes())
	}
}

// P12.1: without power nothing is opened, and ErrForm goes ahead.
func TestOpenDark(t *testing.T) {
	d := newDisk(t, base("a"), api.Trouble{At: 1, Kind: api.TroubleOff})
	d.Sync("base")
	for _, mode := range modes() {
		if p, e := Open(d, mode, locks.New(), 0); p != nil || e != api.ErrIO {
			t.Errorf("%v, %v", p, e)
		}
	}
	if p, e := Open(d, 0, locks.New(), 0); p != nil || e != api.ErrForm {
		t.Errorf("%v, %v", p, e)
	}
}

// P12.1: a disk with the file base alone has its pages, of any number.
func TestOpenBase(t *testing.T) {
	for _, mode := range modes() {
		for _, n := range []int{0, 1, 2, 100, api.MaxPages - 1, api.MaxPages} {
			l := strings.Repeat("x", n)
			d := newDisk(t, base(l))
			p := open(t, d, mode)
			wantCommitted(t, p, l)
			want(t, "Fold", p.Fold(), api.OK)
			if d.Strokes() != 0 {
				t.Errorf("%d strokes", d.Strokes())
			}
			begin(t, p)
			write(t, p, 0, 'y')
			write(t, p, n/2, 'z')
			commit(t, p)
			b := append([]byte(l), 'y')[:max(n, 1)]
			b[0] = 'y'
			b[n/2] = 'z'
			wantCommitted(t, p, string(b))
			want(t, "Fold", p.Fold(), api.OK)
			wantBaseAlone(t, d, string(b))
		}
	}
}

// Other files, and those of base that are no pages, do no harm.
func TestOtherFiles(t *testing.T) {
	for _, mode := range modes() {
		others := []api.File{{Name: "bas", Data: []byte("abc")}, {Name: "base", Data: image("xy")}, {Name: "c", Data: []byte("d")}}
		d := newDisk(t, others)
		p := open(t, d, mode)
		wantCommitted(t, p, "xy")
		commitAll(t, p, "abc")
		wantCommitted(t, p, "abc")
		want(t, "Fold", p.Fold(), api.OK)
		others[1].Data = image("abc")
		files := d.Crash(nil)
		if len(files) != 3 {
			t.Fatalf("%d files", len(files))
		}
		for i, f := range files {
			if f.Name != others[i].Name || !bytes.Equal(f.Data, others[i].Data) {
				t.Errorf("%s", f.Name)
			}
		}
	}
}

// P12.4: a disk without room for one more file is full: what was committed stays.
func TestFull(t *testing.T) {
	for _, mode := range modes() {
		files := base("xy")
		for i := range api.MaxFiles - 1 {
			files = append(files, api.File{Name: fmt.Sprintf("f%02d", i)})
		}
		d, l := newDisk(t, files), locks.New()
		p := openConn(t, d, mode, l, 2)
		begin(t, p)
		write(t, p, 0, 'a')
		want(t, "Commit", p.Commit(), api.ErrFull)
		wantLevel(t, l, 2, api.LockNone)
		wantOut(t, p)
		wantCommitted(t, openConn(t, d, mode, l, 2), "xy")
	}
}

// P12.2 to P12.6: which calls need a transaction, and which none; nothing has changed by them.
func TestState(t *testing.T) {
	for _, mode := range modes() {
		d, l := newDisk(t, base("xy")), locks.New()
		p := openConn(t, d, mode, l, 1)
		for range 2 {
			b, e := p.Read(-1)
			m, f := p.Mark()
			if b != nil || m != 0 || p.Count() != 0 {
				t.Errorf("%x, %d, %d", b, m, p.Count())
			}
			for i, x := range []api.Errno{e, f, p.Write(0, page(1)), p.Write(-1, nil), p.Commit(), p.Rollback(), p.Back(0), p.Back(1)} {
				want(t, fmt.Sprint(i), x, api.ErrState)
			}
			wantLevel(t, l, 1, api.LockNone)
			begin(t, p)
			wantLevel(t, l, 1, api.LockShared)
			want(t, "Begin", p.Begin(), api.ErrState)
			want(t, "Fold", p.Fold(), api.ErrState)
			wantLevel(t, l, 1, api.LockShared)
			write(t, p, 2, 'z')
			wantLevel(t, l, 1, api.LockReserved)
			want(t, "Begin", p.Begin(), api.ErrState)
			want(t, "Fold", p.Fold(), api.ErrState)
			wantLevel(t, l, 1, api.LockReserved)
			wantInside(t, p, "xyz")
			want(t, "Rollback", p.Rollback(), api.OK)
		}
		wantCommitted(t, p, "xy")
	}
}

// P12.3: numbers that are no page's, and pages that are none.
func TestForm(t *testing.T) {
	for _, mode := range modes() {
		p := open(t, newDisk(t, base("x")), mode)
		begin(t, p)
		for _, n := range []int{-1, api.MaxPages, api.MaxPages + 1, math.MinInt, math.MaxInt, math.MaxInt / api.PageSize, -1 << 32, 1 << 32} {
			if b, e := p.Read(n); b != nil || e != api.ErrForm {
				t.Errorf("Read %d: %x, %v", n, b, e)
			}
			want(t, fmt.Sprint("Write ", n), p.Write(n, page(1)), api.ErrForm)
		}
		for _, size := range []int{0, 1, 511, 513, 1024} {
			want(t, fmt.Sprint("Write of ", size), p.Write(0, make([]byte, size)), api.ErrForm)
		}
		want(t, "Write of nil", p.Write(0, nil), api.ErrForm)
		wantLevel(t, p.locks, 0, api.LockShared)
		wantInside(t, p, "x")
		for _, n := range []int{1, 2, api.MaxPages - 1} {
			if b, e := p.Read(n); e != api.OK || !bytes.Equal(b, page(0)) {
				t.Errorf("Read %d: %x, %v", n, b, e)
			}
		}
		wantInside(t, p, "x")
		commit(t, p)
		wantCommitted(t, p, "x")
	}
}

// P12.3, P12.4: a page far behind, with noughts between, the last one of all too.
func TestHoles(t *testing.T) {
	for _, mode := range modes() {
		for _, n := range []int{0, 1, 5, 700, api.MaxPages - 1} {
			d := newDisk(t, nil)
			p := open(t, d, mode)
			begin(t, p)
			write(t, p, n, 'a')
			l := strings.Repeat("\x00", n) + "a"
			wantInside(t, p, l)
			commit(t, p)
			wantCommitted(t, p, l)
			wantCommitted(t, open(t, newDisk(t, d.Crash(nil)), api.ModeJournal), l)
			begin(t, p)
			write(t, p, n/2, 'b')
			commit(t, p)
			l = l[:n/2] + "b" + l[n/2+1:]
			wantCommitted(t, p, l)
			want(t, "Fold", p.Fold(), api.OK)
			wantBaseAlone(t, d, l)
		}
	}
}

// P12.4: what was written and rolled back, or only read, changes nothing, and takes no stroke.
func TestNothingChanged(t *testing.T) {
	for _, mode := range modes() {
		d := newDisk(t, base("xy"))
		p := open(t, d, mode)
		begin(t, p)
		write(t, p, 0, 'a')
		write(t, p, 9, 'b')
		if p.Count() != 10 {
			t.Errorf("%d", p.Count())
		}
		want(t, "Rollback", p.Rollback(), api.OK)
		wantLevel(t, p.locks, 0, api.LockNone)
		begin(t, p)
		wantInside(t, p, "xy")
		commit(t, p)
		wantLevel(t, p.locks, 0, api.LockNone)
		begin(t, p)
		m, _ := p.Mark()
		write(t, p, 0, 'a')
		write(t, p, 3, 'a')
		want(t, "Back", p.Back(m), api.OK)
		wantInside(t, p, "xy")
		commit(t, p)
		wantCommitted(t, p, "xy")
		if d.Strokes() != 0 {
			t.Errorf("%d strokes", d.Strokes())
		}
	}
}

// P12.4: all pages, again and again: more than a log has room for; each is found by whoever opens.
func TestMany(t *testing.T) {
	for _, mode := range modes() {
		d := newDisk(t, nil)
		p := open(t, d, mode)
		for k := range byte(5) {
			l := strings.Repeat(string([]byte{'a' + k}), api.MaxPages)
			commitAll(t, p, l)
			wantCommitted(t, p, l)
			wantCommitted(t, open(t, newDisk(t, d.Crash(nil)), api.ModeLog), l)
		}
	}
}

// P12.4: many small commits: no file gets long by them.
func TestManySmall(t *testing.T) {
	for _, mode := range modes() {
		d := newDisk(t, nil)
		p := open(t, d, mode)
		l := bytes.Repeat([]byte{0}, 40)
		for k := range 1000 {
			begin(t, p)
			n := k * 7 % 40
			l[n] = byte(k)
			l[39] = byte(k)
			write(t, p, n, l[n])
			write(t, p, 39, l[39])
			commit(t, p)
			total := 0
			for _, f := range d.Crash(nil) {
				total += len(f.Data)
			}
			if total > 40*512+longLog {
				t.Fatalf("%d bytes", total)
			}
		}
		wantCommitted(t, p, string(l))
	}
}

// P12.6: base alone, whatever the mode; without pages no file need be there.
func TestFold(t *testing.T) {
	for _, mode := range modes() {
		for _, folder := range modes() {
			d := newDisk(t, nil)
			p, q := open(t, d, mode), open(t, d, folder)
			want(t, "Fold", p.Fold(), api.OK)
			wantBaseAlone(t, d, "")
			l := ""
			for k := range 10 {
				l += string([]byte{'a' + byte(k)})
				commitAll(t, p, l)
				if k%3 == 0 {
					want(t, "Fold", q.Fold(), api.OK)
					wantBaseAlone(t, d, l)
					n := d.Strokes()
					want(t, "Fold again", q.Fold(), api.OK)
					if d.Strokes() != n {
						t.Errorf("%d strokes", d.Strokes()-n)
					}
				}
				wantCommitted(t, q, l)
			}
			wantLevel(t, p.locks, 0, api.LockNone)
			wantLevel(t, q.locks, 0, api.LockNone)
		}
	}
	d := newDisk(t, nil)
	p := open(t, d, api.ModeJournal)
	commitAll(t, p, "abc")
	wantBaseAlone(t, d, "abc")
	commitAll(t, p, "de")
	wantBaseAlone(t, d, "dec")
}

// P12.1: the modes by turns, each over what the other one left.
func TestModesByTurns(t *testing.T) {
	d := newDisk(t, nil)
	l := []byte("....")
	a, b := open(t, d, api.ModeJournal), open(t, d, api.ModeLog)
	for k := range 60 {
		p := a
		if k%7 < 4 {
			p = b
		}
		if k%11 == 0 {
			p = open(t, d, p.mode)
		}
		begin(t, p)
		l[k%4] = byte(k)
		write(t, p, k%4, byte(k))
		if k == 0 {
			write(t, p, 1, '.')
			write(t, p, 2, '.')
			write(t, p, 3, '.')
		}
		commit(t, p)
		wantCommitted(t, a, string(l))
		wantCommitted(t, b, string(l))
		wantCommitted(t, open(t, newDisk(t, d.Crash(nil)), api.ModeJournal+k%2), string(l))
	}
}

// R2: what is handed in is neither changed nor kept, and what is told is new memory.
func TestMemory(t *testing.T) {
	for _, mode := range modes() {
		p := open(t, newDisk(t, base("xy")), mode)
		begin(t, p)
		room := append(page('a'), page('b')...)
		want(t, "Write", p.Write(0, room[:api.PageSize]), api.OK)
		m, _ := p.Mark()
		if !bytes.Equal(room, append(page('a'), page('b')...)) {
			t.Error("changed")
		}
		scribble(room)
		write(t, p, 1, 'c')
		for n := range 3 {
			x, _ := p.Read(n)
			y, _ := p.Read(n)
			scribble(x)
			z, _ := p.Read(n)
			if !bytes.Equal(y, z) {
				t.Errorf("page %d is shared", n)
			}
		}
		wantInside(t, p, "ac")
		want(t, "Back", p.Back(m), api.OK)
		wantInside(t, p, "ay")
		commit(t, p)
		wantCommitted(t, p, "ay")
	}
}

// scribble writes over all that b has, and over its spare room.
func scribble(b []byte) {
	b = b[:cap(b)]
	for i := range b {
		b[i] = '!'
	}
}

// R1: a Pager that Open did not make is one that is put out.
func TestZeroPager(t *testing.T) { wantOut(t, &Pager{}) }

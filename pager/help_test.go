package pager

import (
	"bytes"
	"fmt"
	"testing"

	"cadastre/api"
	"cadastre/disk"
	"cadastre/locks"
)

func modes() []int { return []int{api.ModeJournal, api.ModeLog} }

// page tells the page that stands for c: noughts for 0, else unlike all others, and in each 16 bytes so that the sum does
// not feel it when they are lost: what keeps a torn page out must be something else.
func page(c byte) []byte {
	p := make([]byte, 0, api.PageSize)
	for i := range uint32(api.PageSize / 16) {
		if c == 0 {
			p = append(p, make([]byte, 16)...)
			continue
		}
		x, y := uint32(c)<<16|i, uint32(c)*0x9e3779b9+i
		a, b := x, x+y
		for _, w := range []uint32{x, y, -(a + b), -b} {
			p = append(p, byte(w>>24), byte(w>>16), byte(w>>8), byte(w))
		}
	}
	return p
}

// image tells the bytes of pages that stand for l's bytes.
func image(l string) []byte {
	var b []byte
	for _, c := range []byte(l) {
		b = append(b, page(c)...)
	}
	return b
}

func newDisk(t *testing.T, files []api.File, troubles ...api.Trouble) *disk.Disk {
	t.Helper()
	d, e := disk.New(files, troubles)
	if e != api.OK {
		t.Fatalf("disk.New: %v", e)
	}
	return d
}

func base(l string) []api.File { return []api.File{{Name: "base", Data: image(l)}} }

func open(t *testing.T, d *disk.Disk, mode int) *Pager { return openConn(t, d, mode, locks.New(), 0) }

func openConn(t *testing.T, d *disk.Disk, mode int, l *locks.Table, c int) *Pager {
	t.Helper()
	p, e := Open(d, mode, l, c)
	if p == nil || e != api.OK {
		t.Fatalf("Open: %v", e)
	}
	return p
}

func want(t *testing.T, what string, got, wanted api.Errno) {
	t.Helper()
	if got != wanted {
		t.Fatalf("%s: told %v, want %v", what, got, wanted)
	}
}

func begin(t *testing.T, p *Pager) {
	t.Helper()
	want(t, "Begin", p.Begin(), api.OK)
}

func write(t *testing.T, p *Pager, n int, c byte) {
	t.Helper()
	want(t, fmt.Sprint("Write ", n), p.Write(n, page(c)), api.OK)
}

func commit(t *testing.T, p *Pager) {
	t.Helper()
	want(t, "Commit", p.Commit(), api.OK)
}

// commitAll begins, writes the pages that stand for l, and commits.
func commitAll(t *testing.T, p *Pager, l string) {
	t.Helper()
	begin(t, p)
	for i, c := range []byte(l) {
		write(t, p, i, c)
	}
	commit(t, p)
}

// inside tells the pages of p's transaction, a byte each.
func inside(t *testing.T, p *Pager) string {
	t.Helper()
	var l []byte
	for n := range p.Count() {
		b, e := p.Read(n)
		if e != api.OK || len(b) != api.PageSize {
			t.Fatalf("Read %d: %d bytes, %v", n, len(b), e)
		}
		c := b[1]
		if !bytes.Equal(b, page(c)) {
			t.Fatalf("page %d is torn: %x", n, b)
		}
		l = append(l, c)
	}
	return string(l)
}

func wantInside(t *testing.T, p *Pager, l string) {
	t.Helper()
	if got := inside(t, p); got != l {
		t.Fatalf("pages %q, want %q", got, l)
	}
}

// committed tells what a transaction of p sees, a byte a page.
func committed(t *testing.T, p *Pager) string {
	t.Helper()
	begin(t, p)
	l := inside(t, p)
	want(t, "Rollback", p.Rollback(), api.OK)
	return l
}

func wantCommitted(t *testing.T, p *Pager, l string) {
	t.Helper()
	if got := committed(t, p); got != l {
		t.Fatalf("committed %q, want %q", got, l)
	}
}

func wantLevel(t *testing.T, l *locks.Table, c, level int) {
	t.Helper()
	if got, _ := l.Level(c); got != level {
		t.Fatalf("level of %d: %d, want %d", c, got, level)
	}
}

// wantBaseAlone asks that the safe files are base with these pages, and the others.
func wantBaseAlone(t *testing.T, d *disk.Disk, l string, others ...api.File) {
	t.Helper()
	wanted := append(base(l), others...)
	if l == "" {
		wanted = others
	}
	for _, picks := range [][]int{nil, {1, 1, 1, 1, 1, 1, 1, 1, 1}} {
		files := d.Crash(picks)
		if len(files) != len(wanted) {
			t.Fatalf("%d files, want %d", len(files), len(wanted))
		}
		for i, f := range files {
			if f.Name != wanted[i].Name || !bytes.Equal(f.Data, wanted[i].Data) {
				t.Fatalf("file %s of %d bytes, want %s of %d", f.Name, len(f.Data), wanted[i].Name, len(wanted[i].Data))
			}
		}
	}
}

// wantOut asks that p is put out: that all its calls tell ErrIO.
func wantOut(t *testing.T, p *Pager) {
	t.Helper()
	b, e := p.Read(0)
	m, f := p.Mark()
	if b != nil || m != 0 || p.Count() != 0 {
		t.Fatalf("put out, but told %x, %d, %d", b, m, p.Count())
	}
	_, g := p.Read(-1)
	for i, x := range []api.Errno{e, f, g, p.Begin(), p.Write(0, page(1)), p.Write(-1, nil), p.Commit(), p.Rollback(), p.Back(1), p.Back(0), p.Fold()} {
		if x != api.ErrIO {
			t.Fatalf("put out, but call %d told %v", i, x)
		}
	}
}

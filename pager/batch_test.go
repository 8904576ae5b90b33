package pager

import (
	"bytes"
	"fmt"
	"math/rand"
	"testing"

	"cadastre/api"
)

func batches() []batch {
	return []batch{
		{kind: batchLog},
		{kind: batchLog, place: api.MaxFile},
		{kind: batchBase, count: api.MaxPages},
		{kind: batchBase, count: 3, pages: []leaf{{0, page('a')}, {2, page('b')}}},
		{kind: batchCommit, count: 1, place: 64, pages: []leaf{{0, page(0)}}},
		{kind: batchCommit, count: api.MaxPages, place: 65536, pages: []leaf{{1, page('a')}, {2, page(0)}, {api.MaxPages - 1, page('c')}}},
	}
}

func sameBatch(a, b batch) bool {
	if a.kind != b.kind || a.count != b.count || a.place != b.place || len(a.pages) != len(b.pages) {
		return false
	}
	for i, x := range a.pages {
		if x.n != b.pages[i].n || !bytes.Equal(x.page, b.pages[i].page) {
			return false
		}
	}
	return true
}

// encode and decode undo each other, whatever is behind.
func TestBatch(t *testing.T) {
	for i, b := range batches() {
		l := b.encode()
		if len(l) != b.size() {
			t.Errorf("%d: %d bytes, want %d", i, len(l), b.size())
		}
		for _, behind := range []string{"", "x", "\x00\x00", string(l)} {
			if got := decode(append(bytes.Clone(l), behind...)); !sameBatch(got, b) {
				t.Errorf("%d: %v", i, got)
			}
		}
		for k, x := range b.pages {
			if at := leafAt(k); !bytes.Equal(l[at:at+api.PageSize], x.page) {
				t.Errorf("%d: page %d", i, k)
			}
		}
	}
}

// No beginning of a batch is one, nor one with a head that was torn; and none is found out of its place.
func TestBatchTorn(t *testing.T) {
	for i, b := range batches() {
		l := b.encode()
		for n := range len(l) {
			if decode(l[:n]).kind != batchNone {
				t.Errorf("%d: %d bytes", i, n)
			}
		}
		for n := range headSize {
			torn := append(bytes.Clone(l[:n]), make([]byte, headSize-n)...)
			if decode(append(torn, l[headSize:]...)).kind != batchNone {
				t.Errorf("%d: torn at %d", i, n)
			}
		}
		if decode(make([]byte, len(l))).kind != batchNone {
			t.Errorf("%d: noughts", i)
		}
	}
}

// One turned bit of what the sum is of is found out.
func TestBatchTurned(t *testing.T) {
	for i, b := range batches() {
		l := b.encode()
		for at := range len(l) {
			if at >= sumAt+sumSize && at < headEnd {
				continue
			}
			for bit := range 8 {
				l[at] ^= 1 << bit
				if decode(l).kind != batchNone {
					t.Errorf("%d: byte %d, bit %d", i, at, bit)
				}
				l[at] ^= 1 << bit
			}
		}
	}
}

// Batches that no commit writes are none, though their sum is right.
func TestBatchWrong(t *testing.T) {
	for i, b := range []batch{
		{kind: batchCommit, count: api.MaxPages + 1},
		{kind: batchCommit, count: 1, place: api.MaxFile + 1},
		{kind: batchCommit, pages: []leaf{{0, page(1)}}},
		{kind: batchCommit, count: 1, pages: []leaf{{1, page(1)}}},
		{kind: batchCommit, count: 5, pages: []leaf{{-1, page(1)}}},
		{kind: batchCommit, count: 5, pages: []leaf{{3, page(1)}, {3, page(2)}}},
		{kind: batchCommit, count: 5, pages: []leaf{{3, page(1)}, {2, page(2)}}},
		{kind: batchCommit, count: 5, pages: []leaf{{1 << 40, page(1)}}},
	} {
		if decode(b.encode()).kind != batchNone {
			t.Errorf("%d", i)
		}
	}
}

// R1: files of any bytes are opened, read, written and folded: nothing panics, and what is committed is seen.
func TestRubbish(t *testing.T) {
	for seed := range int64(300) {
		r := rand.New(rand.NewSource(seed))
		var files []api.File
		for _, name := range []string{"base", "base-journal", "base-log"} {
			if r.Intn(4) > 0 {
				files = append(files, api.File{Name: name, Data: rubbish(r)})
			}
		}
		d := newDisk(t, files)
		p := open(t, d, modes()[seed%2])
		begin(t, p)
		before := p.Count()
		for range 20 {
			n := r.Intn(api.MaxPages)
			if b, e := p.Read(n); e != api.OK || len(b) != api.PageSize {
				t.Fatalf("%d: %v", n, e)
			}
		}
		write(t, p, 3, 'a')
		want(t, "Commit", p.Commit(), api.OK)
		want(t, "Fold", p.Fold(), api.OK)
		begin(t, p)
		if b, e := p.Read(3); e != api.OK || !bytes.Equal(b, page('a')) || p.Count() != max(before, 4) {
			t.Fatalf("%d: %x, %v, %d pages of %d", seed, b, e, p.Count(), before)
		}
	}
}

// rubbish tells bytes that are none of a pager's, or nearly are.
func rubbish(r *rand.Rand) []byte {
	var l []byte
	for range r.Intn(4) {
		b := batch{kind: r.Intn(5), count: r.Intn(12), place: len(l)}
		if r.Intn(6) == 0 {
			b.place = r.Intn(3000)
		}
		for n := range b.count {
			if r.Intn(3) == 0 || n == b.count-1 {
				b.pages = append(b.pages, leaf{n, page(byte(r.Intn(256)))})
			}
		}
		l = append(l, b.encode()...)
	}
	for range r.Intn(3) {
		if len(l) > 0 {
			l[r.Intn(len(l))] ^= byte(r.Intn(256))
		}
	}
	if r.Intn(3) == 0 {
		l = append(l, fmt.Sprint(r.Int63())...)
	}
	return l[:len(l)-r.Intn(2)*r.Intn(len(l)+1)]
}

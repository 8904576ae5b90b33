package rows

import (
	"bytes"
	"maps"
	"math/rand"
	"slices"
	"testing"

	"cadastre/api"
	"cadastre/disk"
	"cadastre/draft"
	"cadastre/locks"
	"cadastre/pager"
	"cadastre/pages"
)

// What a tree of rows must hold one call at a time is tested with package tree, which is made of this one. Here: several
// changes, to several trees, as one whole.

func want(t *testing.T, what string, got, wanted api.Errno) {
	t.Helper()
	if got != wanted {
		t.Fatalf("%s: told %v, want %v", what, got, wanted)
	}
}

// fresh tells a file of pages within a transaction, and its pager.
func fresh(t *testing.T) (*pages.Pages, *pager.Pager) {
	t.Helper()
	d, e := disk.New(nil, nil)
	want(t, "disk.New", e, api.OK)
	p, e := pager.Open(d, api.ModeJournal, locks.New(), 0)
	want(t, "Open", e, api.OK)
	want(t, "Begin", p.Begin(), api.OK)
	return pages.New(p), p
}

// filled tells n bytes that begin with c, no two pieces of them alike.
func filled(c, n int) []byte {
	b := make([]byte, n)
	for i := range b {
		b[i] = byte(c + i + i/251)
	}
	return b
}

// model is what a tree holds.
type model map[int64][]byte

// wantDump asks that the tree of the draft holds just what the model does.
func (m model) wantDump(t *testing.T, d *draft.Draft, root int) {
	t.Helper()
	keys, data, e := Dump(d, root)
	if e != api.OK || !slices.Equal(keys, slices.Sorted(maps.Keys(m))) {
		t.Fatalf("Dump: %d keys, %v, want %d", len(keys), e, len(m))
	}
	for i, k := range keys {
		if !bytes.Equal(data[i], m[k]) {
			t.Fatalf("Dump: %d: %d bytes, want %d", k, len(data[i]), len(m[k]))
		}
	}
}

// step does something to the tree, and asks the draft for it.
func (m model) step(t *testing.T, d *draft.Draft, root int, r *rand.Rand) {
	t.Helper()
	key := r.Int63n(80)
	_, there := m[key]
	var was bool
	if r.Intn(3) > 0 {
		m[key] = filled(r.Intn(256), r.Intn(100)+r.Intn(2)*r.Intn(1200))
		was = Put(d, root, key, m[key])
	} else {
		was = Delete(d, root, key)
		delete(m, key)
	}
	data, got, e := Get(d, root, key)
	if _, now := m[key]; was != there || got != now || !bytes.Equal(data, m[key]) || e != api.OK {
		t.Fatalf("%d: %v, %v, %d bytes, %v, want %v, %v, %d", key, was, got, len(data), e, there, now, len(m[key]))
	}
}

// Many changes to two trees in one draft: it sees each, and all of them are done, or none.
func TestOneWhole(t *testing.T) {
	for seed := range int64(40) {
		g, p := fresh(t)
		var a, b int
		want(t, "Do", draft.Do(g, func(d *draft.Draft) { a, b = New(d), New(d) }), api.OK)
		was := [2]model{{}, {}}
		for k := range int64(6) {
			mark, _ := p.Mark()
			count := p.Count()
			var now [2]model
			plan := func(d *draft.Draft) {
				r := rand.New(rand.NewSource(10*seed + k))
				now = [2]model{maps.Clone(was[0]), maps.Clone(was[1])}
				for range seed * 2 {
					i := r.Intn(2)
					now[i].step(t, d, []int{a, b}[i], r)
				}
				now[0].wantDump(t, d, a)
				now[1].wantDump(t, d, b)
			}
			want(t, "Do", draft.Do(g, func(d *draft.Draft) { plan(d); d.Fail(api.ErrUnique) }), api.ErrUnique)
			if p.Count() != count {
				t.Fatal("changed")
			}
			was[0].wantDump(t, draft.On(g), a)
			was[1].wantDump(t, draft.On(g), b)
			want(t, "Do", draft.Do(g, plan), api.OK)
			now[0].wantDump(t, draft.On(g), a)
			now[1].wantDump(t, draft.On(g), b)
			wantPages(t, g, a, b)
			if k%3 == 1 {
				want(t, "Back", p.Back(mark), api.OK)
				now = was
			}
			was = now
		}
	}
}

// wantPages asks that each held page is one tree's alone.
func wantPages(t *testing.T, g *pages.Pages, roots ...int) {
	t.Helper()
	var l []int
	for _, root := range roots {
		at, e := Pages(draft.On(g), root)
		want(t, "Pages", e, api.OK)
		l = append(l, at...)
	}
	held, e := g.Held()
	want(t, "Held", e, api.OK)
	if slices.Sort(l); !slices.Equal(l, held) {
		t.Fatalf("%v, held %v", l, held)
	}
}

// Errors: the draft fails, and nothing else is told.
func TestErrors(t *testing.T) {
	g, p := fresh(t)
	root, e := draft.Make(g, New)
	want(t, "Make", e, api.OK)
	count := p.Count()
	for _, x := range []struct {
		plan func(d *draft.Draft) bool
		e    api.Errno
	}{
		{func(d *draft.Draft) bool { return Put(d, root+1, 1, nil) }, api.ErrForm},
		{func(d *draft.Draft) bool { return Delete(d, root+1, 1) }, api.ErrForm},
		{func(d *draft.Draft) bool { return Put(d, 0, 1, make([]byte, api.MaxRecord+1)) }, api.ErrForm},
		{func(d *draft.Draft) bool { return Put(d, root, 1, make([]byte, api.MaxRecord+1)) }, api.ErrLimit},
		{func(d *draft.Draft) bool {
			Put(d, root, 1, filled(1, 5))
			return Put(d, root, 1, make([]byte, api.MaxRecord+1))
		}, api.ErrLimit},
		{func(d *draft.Draft) bool { d.Put(root, 77, 0, nil); return Delete(d, root, 1) }, api.ErrForm},
	} {
		told := true
		e := draft.Do(g, func(d *draft.Draft) { told = x.plan(d) })
		if e != x.e || told || p.Count() != count {
			t.Errorf("%v, %v, want %v", told, e, x.e)
		}
	}
	model{}.wantDump(t, draft.On(g), root)
}

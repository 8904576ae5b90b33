package rtree

import (
	"bytes"
	"maps"
	"math/rand"
	"slices"
	"testing"

	"cadastre/api"
	"cadastre/disk"
	"cadastre/locks"
	"cadastre/pager"
	"cadastre/pages"
)

// wood is some trees, by their roots.
type wood map[int]model

func (w wood) clone() wood {
	c := wood{}
	for root, m := range w {
		c[root] = maps.Clone(m)
	}
	return c
}

func (w wood) roots() []int { return slices.Sorted(maps.Keys(w)) }

// run is a pager with trees of boxes on it, and what they hold by the chapter's words.
type run struct {
	t         *testing.T
	r         *rand.Rand
	d         *disk.Disk
	p         *pager.Pager
	g         *pages.Pages
	now       wood
	committed wood
	marked    wood // what was when mark was told
	mark      int
	mode      int
	span      int64       // how far apart boxes and identities are
	made      map[int]int // how often each thing was done
}

func newRun(t *testing.T, seed int64, mode int, span int64) *run {
	t.Helper()
	w := &run{t: t, r: rand.New(rand.NewSource(seed)), d: newDisk(t, nil), mode: mode, span: span, made: map[int]int{}}
	w.committed = wood{}
	w.anew()
	return w
}

// anew opens a pager over what is committed, and begins.
func (w *run) anew() {
	w.t.Helper()
	w.p = open(w.t, w.d, w.mode, locks.New(), 0)
	w.g = pages.New(w.p)
	w.begin()
}

func (w *run) begin() {
	w.t.Helper()
	want(w.t, "Begin", w.p.Begin(), api.OK)
	w.now, w.marked = w.committed.clone(), nil
}

func (w *run) commit() {
	w.t.Helper()
	want(w.t, "Commit", w.p.Commit(), api.OK)
	w.committed = w.now.clone()
	w.begin()
}

// markOrBack marks what is now, or goes back to what was marked.
func (w *run) markOrBack() {
	w.t.Helper()
	if w.marked != nil {
		want(w.t, "Back", w.p.Back(w.mark), api.OK)
		w.now, w.marked = w.marked, nil
		return
	}
	m, e := w.p.Mark()
	want(w.t, "Mark", e, api.OK)
	w.mark, w.marked = m, w.now.clone()
}

// crash goes on with what a crash leaves of the disk.
func (w *run) crash() {
	w.t.Helper()
	w.d = newDisk(w.t, w.d.Crash([]int{w.r.Intn(2), w.r.Intn(9), w.r.Intn(9)}))
	w.mode = api.ModeJournal + api.ModeLog - w.mode
	w.anew()
}

func (w *run) create() {
	w.t.Helper()
	root := create(w.t, w.g)
	if w.now[root] != nil {
		w.t.Fatalf("Create: %d is one", root)
	}
	w.now[root] = model{}
}

// some tells a tree's root.
func (w *run) some() int {
	w.t.Helper()
	if len(w.now) == 0 {
		w.create()
	}
	l := w.now.roots()
	return l[w.r.Intn(len(l))]
}

func (w *run) drop() {
	w.t.Helper()
	root := w.some()
	want(w.t, "Drop", Drop(w.g, root), api.OK)
	delete(w.now, root)
}

func (w *run) id() int64 { return w.r.Int63n(w.span) - w.span/2 }

// box tells one: most are small, some are points or lines, few are at the edges.
func (w *run) box() api.Box {
	x, y := w.id(), w.id()
	switch w.r.Intn(12) {
	case 0:
		return dot(x, y)
	case 1:
		return mk(x, x+w.r.Int63n(w.span), y, y)
	case 2:
		return mk(-api.Coord, x, y, api.Coord-1)
	}
	return mk(x, x+w.r.Int63n(1+w.span/20), y, y+w.r.Int63n(1+w.span/20))
}

func (w *run) put() {
	w.t.Helper()
	root := w.some()
	w.now[root].put(w.t, w.g, root, w.id(), w.box())
}

func (w *run) delete() {
	w.t.Helper()
	root, id := w.some(), w.id()
	if ids := w.now[root].ids(); len(ids) > 0 && w.r.Intn(4) > 0 {
		id = ids[w.r.Intn(len(ids))]
	}
	w.now[root].delete(w.t, w.g, root, id)
}

// many puts, or deletes, identities that follow one another, boxes side by side.
func (w *run) many(gone bool) {
	w.t.Helper()
	root, id, x, y := w.some(), w.id(), w.id(), w.id()
	for i := range int64(40) {
		if gone {
			w.now[root].delete(w.t, w.g, root, id+i)
		} else {
			w.now[root].put(w.t, w.g, root, id+i, mk(x+i, x+i+i%3, y-i%7, y))
		}
	}
}

// step does something.
func (w *run) step() {
	w.t.Helper()
	what := w.r.Intn(60)
	w.made[what]++
	switch what {
	case 0, 1:
		w.commit()
	case 2:
		want(w.t, "Rollback", w.p.Rollback(), api.OK)
		w.begin()
	case 3:
		w.crash()
	case 4, 5:
		w.markOrBack()
	case 6, 7:
		w.create()
	case 8:
		w.drop()
	case 9, 10, 11:
		w.many(false)
	case 12, 13:
		w.many(true)
	case 14, 15, 16, 17, 18, 19, 20, 21, 22, 23, 24, 25, 26, 27, 28, 29:
		w.delete()
	default:
		w.put()
	}
}

// look asks for some of what one of the trees holds.
func (w *run) look() {
	w.t.Helper()
	root := w.some()
	w.now[root].wantGet(w.t, w.g, root, w.id())
	w.now[root].wantFind(w.t, w.g, root, w.box())
}

// lookAll asks for all that they hold.
func (w *run) lookAll() {
	w.t.Helper()
	for root, m := range w.now {
		m.wantWhole(w.t, w.g, root)
	}
	wantApart(w.t, w.g, w.now.roots())
}

// P18.1 to P18.4: long runs, with transactions, marks, crashes, both modes, boxes that are near one another or strewn.
func TestRuns(t *testing.T) {
	for seed, span := range []int64{1, 5, 30, 200, 1000, 100000, 1 << 30} {
		for _, mode := range []int{api.ModeJournal, api.ModeLog} {
			w := newRun(t, int64(seed), mode, span)
			for i := range 600 {
				w.step()
				w.look()
				if i%20 == 0 {
					w.lookAll()
				}
			}
			w.lookAll()
			if w.made[0] == 0 || w.made[2] == 0 || w.made[3] == 0 || w.made[4] < 2 || w.made[8] == 0 {
				t.Errorf("%d: not all was done", seed)
			}
		}
	}
}

// R1: the same calls tell the same.
func TestSame(t *testing.T) {
	a, b := newRun(t, 7, api.ModeJournal, 300), newRun(t, 7, api.ModeJournal, 300)
	for range 300 {
		a.step()
		b.step()
		if !slices.Equal(a.now.roots(), b.now.roots()) {
			t.Fatal("unlike")
		}
	}
	if !bytes.Equal(image(t, a.p), image(t, b.p)) {
		t.Error("unlike")
	}
}

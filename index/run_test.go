package index

import (
	"bytes"
	"maps"
	"math/rand"
	"slices"
	"strings"
	"testing"

	"cadastre/api"
	"cadastre/disk"
	"cadastre/draft"
	"cadastre/locks"
	"cadastre/pager"
	"cadastre/pages"
)

// wood is some indexes, by their roots.
type wood map[int]*model

func (w wood) clone() wood {
	c := wood{}
	for root, m := range w {
		c[root] = m.clone()
	}
	return c
}

func (w wood) roots() []int { return slices.Sorted(maps.Keys(w)) }

// mark is a number to go back to, and what was then.
type mark struct {
	number int
	was    wood
}

// run is a pager with indexes on it, and what they hold by the chapter's words.
type run struct {
	t         *testing.T
	r         *rand.Rand
	d         *disk.Disk
	p         *pager.Pager
	g         *pages.Pages
	now       wood
	committed wood
	marks     []mark
	mode      int
	span      int         // how many keys there are
	made      map[int]int // how often each thing was done
}

func newRun(t *testing.T, seed int64, mode, span int) *run {
	t.Helper()
	w := &run{t: t, r: rand.New(rand.NewSource(seed)), d: newDisk(t, nil), mode: mode, span: span, made: map[int]int{}}
	w.committed = wood{}
	w.anew()
	return w
}

// anew opens a pager over what is committed, and begins.
func (w *run) anew() {
	w.t.Helper()
	w.p = open(w.t, w.d, w.mode, locks.New(), 0)
	w.g = pages.New(w.p)
	w.begin()
}

func (w *run) begin() {
	w.t.Helper()
	want(w.t, "Begin", w.p.Begin(), api.OK)
	w.now, w.marks = w.committed.clone(), nil
}

func (w *run) commit() {
	w.t.Helper()
	want(w.t, "Commit", w.p.Commit(), api.OK)
	w.committed = w.now.clone()
	w.begin()
}

func (w *run) create() {
	w.t.Helper()
	root := create(w.t, w.g)
	if w.now[root] != nil {
		w.t.Fatalf("Create: %d is one", root)
	}
	w.now[root] = &model{}
}

func (w *run) drop() {
	w.t.Helper()
	root := w.some()
	want(w.t, "Drop", Drop(w.g, root), api.OK)
	delete(w.now, root)
}

// some tells an index's root.
func (w *run) some() int {
	w.t.Helper()
	if len(w.now) == 0 {
		w.create()
	}
	l := w.now.roots()
	return l[w.r.Intn(len(l))]
}

// key tells one: most are short, some are alike but for their ends, some are at the edges, few are long.
func (w *run) key() []api.Value {
	n := int64(w.r.Intn(w.span) - w.span/2)
	switch w.r.Intn(20) {
	case 0:
		return long(sizes()[w.r.Intn(len(sizes()))], n%9)
	case 1:
		return long(11+w.r.Intn(4*draft.Piece), n%30)
	case 2, 3:
		return long(draft.Short-w.r.Intn(4), n)
	case 4, 5:
		return key(tx(strings.Repeat("a", 90)), in(n))
	case 6:
		return some()[w.r.Intn(len(some()))]
	case 7, 8, 9:
		return key(tx(strings.Repeat("b", int(n)&31)), bl("c"), null())
	}
	return key(in(n), in(n&7))
}

func (w *run) put() {
	w.t.Helper()
	root := w.some()
	w.now[root].put(w.t, w.g, root, w.key())
}

// many puts, or deletes, keys that follow one another.
func (w *run) many(gone bool) {
	w.t.Helper()
	root, n := w.some(), int64(w.r.Intn(w.span))
	for i := range int64(60) {
		k := long(60, (n+i)%1000)
		if gone {
			w.now[root].delete(w.t, w.g, root, k)
		} else {
			w.now[root].put(w.t, w.g, root, k)
		}
	}
}

func (w *run) delete() {
	w.t.Helper()
	root, k := w.some(), w.key()
	if l := w.now[root].l; len(l) > 0 && w.r.Intn(4) > 0 {
		k = l[w.r.Intn(len(l))]
	}
	w.now[root].delete(w.t, w.g, root, k)
}

func (w *run) mark() {
	w.t.Helper()
	m, e := w.p.Mark()
	want(w.t, "Mark", e, api.OK)
	w.marks = append(w.marks, mark{m, w.now.clone()})
}

func (w *run) back() {
	w.t.Helper()
	if len(w.marks) == 0 {
		return
	}
	i := w.r.Intn(len(w.marks))
	want(w.t, "Back", w.p.Back(w.marks[i].number), api.OK)
	w.now, w.marks = w.marks[i].was.clone(), w.marks[:i+1]
}

// crash goes on with what a crash leaves of the disk.
func (w *run) crash() {
	w.t.Helper()
	w.d = newDisk(w.t, w.d.Crash([]int{w.r.Intn(2), w.r.Intn(9), w.r.Intn(9)}))
	w.mode = api.ModeJournal + api.ModeLog - w.mode
	w.anew()
}

// step does something.
func (w *run) step() {
	w.t.Helper()
	what := w.r.Intn(60)
	w.made[what]++
	switch what {
	case 0, 1:
		w.commit()
	case 2:
		want(w.t, "Rollback", w.p.Rollback(), api.OK)
		w.begin()
	case 3:
		w.crash()
	case 4, 5:
		w.mark()
	case 6:
		w.back()
	case 7, 8:
		w.create()
	case 9:
		w.drop()
	case 10, 11:
		w.many(false)
	case 12, 13:
		w.many(true)
	case 14, 15, 16, 17, 18, 19, 20, 21, 22, 23, 24, 25, 26, 27, 28, 29:
		w.delete()
	default:
		w.put()
	}
}

// look asks for some of what one of the indexes holds.
func (w *run) look() {
	w.t.Helper()
	root := w.some()
	w.now[root].wantAbout(w.t, w.g, root, w.key())
}

// lookAll asks for all that they hold.
func (w *run) lookAll() {
	w.t.Helper()
	for root, m := range w.now {
		m.wantDump(w.t, w.g, root)
	}
	wantApart(w.t, w.g, w.now.roots())
}

// P15.1 to P15.3: long runs, with transactions, marks, crashes, both modes, keys that are near one another or strewn.
func TestRuns(t *testing.T) {
	for seed, span := range []int{1, 5, 30, 200, 200, 1000, 5000, 1 << 40} {
		for _, mode := range []int{api.ModeJournal, api.ModeLog} {
			w := newRun(t, int64(seed), mode, span)
			for i := range 600 {
				w.step()
				w.look()
				if i%20 == 0 {
					w.lookAll()
				}
			}
			w.lookAll()
			if w.made[0] == 0 || w.made[2] == 0 || w.made[3] == 0 || w.made[6] == 0 || w.made[9] == 0 {
				t.Errorf("%d: not all was done", seed)
			}
		}
	}
}

// R1: the same calls tell the same.
func TestSame(t *testing.T) {
	a, b := newRun(t, 7, api.ModeJournal, 300), newRun(t, 7, api.ModeJournal, 300)
	for range 300 {
		a.step()
		b.step()
		if !slices.Equal(a.now.roots(), b.now.roots()) {
			t.Fatal("unlike")
		}
	}
	if !bytes.Equal(image(t, a.p), image(t, b.p)) {
		t.Error("unlike")
	}
}

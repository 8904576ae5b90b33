package pages

import (
	"bytes"
	"maps"
	"math/rand"
	"slices"
	"testing"

	"cadastre/api"
	"cadastre/disk"
	"cadastre/locks"
	"cadastre/pager"
)

// model is what the chapter says of a file of pages.
type model struct {
	pages map[int]byte // what each held page is full of
	roots [8]int
	most  int // held at once
}

func (m model) clone() model {
	m.pages = maps.Clone(m.pages)
	return m
}

func (m model) held() []int { return slices.Sorted(maps.Keys(m.pages)) }

// mark is a number to go back to, and what was then.
type mark struct {
	number int
	was    model
}

// run is a pager with files of pages over it, and the model.
type run struct {
	t         *testing.T
	r         *rand.Rand
	d         *disk.Disk
	p         *pager.Pager
	g         *Pages
	now       model
	committed model
	marks     []mark
	mode      int
	made      map[int]int // how often each thing was done
}

func newRun(t *testing.T, seed int64, mode, many int) *run {
	t.Helper()
	w := &run{t: t, r: rand.New(rand.NewSource(seed)), d: newDisk(t, nil), mode: mode, made: map[int]int{}}
	w.now.pages = map[int]byte{}
	w.committed = w.now.clone()
	w.anew()
	for range many {
		w.alloc()
	}
	w.commit()
	return w
}

// anew opens a pager over what is committed, and begins.
func (w *run) anew() {
	w.t.Helper()
	w.p = open(w.t, w.d, w.mode, locks.New(), 0)
	w.g = New(w.p)
	w.begin()
}

func (w *run) begin() {
	w.t.Helper()
	want(w.t, "Begin", w.p.Begin(), api.OK)
	w.now, w.marks = w.committed.clone(), nil
}

func (w *run) commit() {
	w.t.Helper()
	want(w.t, "Commit", w.p.Commit(), api.OK)
	w.committed = w.now.clone()
	w.begin()
}

func (w *run) alloc() {
	w.t.Helper()
	n, e := w.g.Alloc()
	if e == api.ErrLimit && len(w.now.pages) >= enough {
		return
	}
	if _, held := w.now.pages[n]; e != api.OK || held || n < 1 || n >= api.MaxPages {
		w.t.Fatalf("Alloc: %d, %v", n, e)
	}
	wantPage(w.t, w.g, n, noughts())
	w.now.pages[n] = 0
	w.now.most = max(w.now.most, len(w.now.pages))
}

// some tells a number, of a held page more often than not.
func (w *run) some() int {
	if l := w.now.held(); len(l) > 0 && w.r.Intn(8) > 0 {
		return l[w.r.Intn(len(l))]
	}
	return w.r.Intn(api.MaxPages+2) - 1
}

func (w *run) free() {
	w.t.Helper()
	n := w.some()
	want(w.t, "Free", w.g.Free(n), w.expected(n))
	delete(w.now.pages, n)
}

func (w *run) write() {
	w.t.Helper()
	n, c := w.some(), byte(w.r.Intn(256))
	e := w.expected(n)
	if want(w.t, "Write", w.g.Write(n, page(c)), e); e == api.OK {
		w.now.pages[n] = c
	}
}

// expected tells what a call with page n is told.
func (w *run) expected(n int) api.Errno {
	if _, held := w.now.pages[n]; held {
		return api.OK
	}
	return api.ErrForm
}

func (w *run) setRoot() {
	w.t.Helper()
	i, n := w.r.Intn(8), w.r.Intn(api.MaxPages)
	want(w.t, "SetRoot", w.g.SetRoot(i, n), api.OK)
	w.now.roots[i] = n
}

func (w *run) mark() {
	w.t.Helper()
	m, e := w.p.Mark()
	want(w.t, "Mark", e, api.OK)
	w.marks = append(w.marks, mark{m, w.now.clone()})
}

func (w *run) back() {
	w.t.Helper()
	if len(w.marks) == 0 {
		return
	}
	i := w.r.Intn(len(w.marks))
	want(w.t, "Back", w.p.Back(w.marks[i].number), api.OK)
	w.now, w.marks = w.marks[i].was.clone(), w.marks[:i+1]
}

// crash goes on with what a crash leaves of the disk.
func (w *run) crash() {
	w.t.Helper()
	w.d = newDisk(w.t, w.d.Crash([]int{w.r.Intn(2), w.r.Intn(9), w.r.Intn(9)}))
	w.mode = api.ModeJournal + api.ModeLog - w.mode
	w.anew()
}

// step does something.
func (w *run) step() {
	w.t.Helper()
	what := w.r.Intn(40)
	w.made[what]++
	switch what {
	case 0:
		w.commit()
	case 1:
		want(w.t, "Rollback", w.p.Rollback(), api.OK)
		w.begin()
	case 2:
		w.crash()
	case 3, 4:
		w.mark()
	case 5:
		w.back()
	case 6, 7, 8:
		w.setRoot()
	case 9:
		w.g = New(w.p)
	case 10, 11, 12, 13, 14, 15, 16, 17, 18, 19:
		w.free()
	case 20, 21, 22, 23, 24, 25, 26, 27, 28:
		w.write()
	default:
		w.alloc()
	}
}

// look asks what is held, and what some of it is full of: every step-th one.
func (w *run) look(step int) {
	w.t.Helper()
	held := w.now.held()
	wantHeld(w.t, w.g, held)
	wantRoots(w.t, w.g, w.now.roots)
	for i := w.r.Intn(step); i < len(held); i += step {
		wantPage(w.t, w.g, held[i], page(w.now.pages[held[i]]))
	}
	if w.p.Count() > atMost(w.now.most) {
		w.t.Fatalf("%d pages, though never more than %d were held", w.p.Count(), w.now.most)
	}
}

// P13.2, P13.3: long runs, with transactions, marks, crashes, both modes, and few pages or many.
func TestRuns(t *testing.T) {
	for seed, many := range []int{0, 0, 3, 90, 100, 1000, 3960, 3966, 3967, 3968, 3969, enough - 2, api.MaxPages - 6} {
		for _, mode := range []int{api.ModeJournal, api.ModeLog} {
			w := newRun(t, int64(seed), mode, many)
			for range 300 {
				w.step()
				w.look(1 + len(w.now.pages)/50)
			}
			w.look(1)
			if w.made[0] == 0 || w.made[1] == 0 || w.made[2] == 0 || w.made[5] == 0 {
				t.Errorf("%d: not all was done", seed)
			}
		}
	}
}

// R1: the same calls tell the same.
func TestSame(t *testing.T) {
	a, b := newRun(t, 7, api.ModeJournal, 20), newRun(t, 7, api.ModeJournal, 20)
	for range 500 {
		a.step()
		b.step()
		if !slices.Equal(a.now.held(), b.now.held()) {
			t.Fatal("unlike")
		}
	}
	if !bytes.Equal(image(t, a.p), image(t, b.p)) {
		t.Error("unlike")
	}
}

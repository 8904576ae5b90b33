package pager

import (
	"bytes"
	"math/rand"
	"slices"
	"testing"

	"cadastre/api"
	"cadastre/disk"
	"cadastre/locks"
)

// States of an actor.
const (
	unopened = iota
	idle
	reading
	wrote
)

// actor is a pager with what the chapter says of it.
type actor struct {
	p     *Pager
	state int
	pages string // of its transaction
	stale bool   // another one's Commit was told OK since Begin
	marks []saved
}

// world is a disk with pagers of all connections, and what the chapter says of it.
type world struct {
	t       *testing.T
	r       *rand.Rand
	d       *disk.Disk
	l       *locks.Table
	actors  [api.Conns]actor
	conns   int    // of these the first ones are at it
	now     string // committed
	flight  string // or this, while open
	open    bool
	commits int
	crashes int
	refused int
}

// others asks whether another one is in that state or a higher one.
func (w *world) others(c, state int) bool {
	for i, a := range w.actors {
		if i != c && a.state >= state {
			return true
		}
	}
	return false
}

// hit takes an error of the disk's: the actor is out; if the power is off all of them are, and what is found is taken up.
func (w *world) hit(c int, e api.Errno) {
	w.t.Helper()
	if e != api.ErrIO && e != api.ErrFull {
		w.t.Fatalf("told %v", e)
	}
	w.refused++
	if p := w.actors[c].p; p != nil {
		wantOut(w.t, p)
	}
	wantLevel(w.t, w.l, c, api.LockNone)
	w.actors[c] = actor{}
	if _, e := w.d.List(); e != api.OK {
		w.crash()
	}
}

// crash goes on with what a crash may leave.
func (w *world) crash() {
	w.t.Helper()
	w.crashes++
	for c, a := range w.actors {
		w.dark(a)
		w.actors[c] = actor{}
	}
	w.anew(w.d.Crash(picks(w.r)))
}

// dark asks what a pager tells without power.
func (w *world) dark(a actor) {
	w.t.Helper()
	switch a.state {
	case idle:
		want(w.t, "Begin in the dark", a.p.Begin(), api.ErrIO)
		wantOut(w.t, a.p)
	case reading:
		if b, e := a.p.Read(api.MaxPages - 1); b != nil || e != api.ErrIO {
			w.t.Fatalf("Read in the dark: %v", e)
		}
		wantOut(w.t, a.p)
	case wrote:
		if w.r.Intn(2) == 0 {
			want(w.t, "Rollback in the dark", a.p.Rollback(), api.OK)
		}
	}
}

// picks tells some for a crash: of many kinds, or all of one.
func picks(r *rand.Rand) []int {
	l := make([]int, r.Intn(400))
	kind := r.Intn(6)
	for i := range l {
		switch kind {
		case 0:
			l[i] = 1
		case 1:
			l[i] = r.Intn(2)
		case 2:
			l[i] = 5 + 6*r.Intn(100)
		default:
			l[i] = r.Intn(1000)
		}
	}
	return l
}

// anew goes on with a new disk of these files.
func (w *world) anew(files []api.File) {
	w.t.Helper()
	var troubles []api.Trouble
	at := 0
	for range w.r.Intn(8) {
		at += 1 + w.r.Intn(1+w.r.Intn(60))
		troubles = append(troubles, api.Trouble{At: at, Kind: 1 + w.r.Intn(3)})
	}
	w.d, w.l = newDisk(w.t, files, troubles...), locks.New()
}

// step makes one call of one pager.
func (w *world) step() {
	w.t.Helper()
	c := w.r.Intn(w.conns)
	a := &w.actors[c]
	if a.state == unopened {
		w.stepOpen(c, a)
		return
	}
	switch w.r.Intn(12) {
	case 0, 1:
		w.stepBegin(c, a)
	case 2, 3, 4, 5, 6:
		w.stepWrite(c, a)
	case 7, 8:
		w.stepCommit(c, a)
	case 9:
		w.stepEnd(c, a)
	case 10:
		w.stepMark(a)
	case 11:
		w.stepFold(c, a)
	}
}

func (w *world) stepOpen(c int, a *actor) {
	w.t.Helper()
	if w.others(c, reading) {
		return
	}
	p, e := Open(w.d, modes()[w.r.Intn(2)], w.l, c)
	if e != api.OK {
		if p != nil {
			w.t.Fatal("a pager beside an error")
		}
		w.hit(c, e)
		return
	}
	*a = actor{p: p, state: idle}
}

func (w *world) stepBegin(c int, a *actor) {
	w.t.Helper()
	e := a.p.Begin()
	switch {
	case a.state != idle:
		want(w.t, "Begin", e, api.ErrState)
	case e == api.ErrBusy:
		if !w.others(c, wrote) {
			w.t.Fatal("Begin: busy")
		}
	case e != api.OK:
		w.hit(c, e)
	default:
		w.settle(inside(w.t, a.p))
		*a = actor{p: a.p, state: reading, pages: w.now}
	}
}

// settle takes what was found as what is committed.
func (w *world) settle(found string) {
	w.t.Helper()
	if w.open && found == w.flight {
		w.now = found
	}
	w.open = false
	if found != w.now {
		w.t.Fatalf("found %q, want %q or %q", found, w.now, w.flight)
	}
}

func (w *world) stepWrite(c int, a *actor) {
	w.t.Helper()
	n, x := w.r.Intn(8), byte(w.r.Intn(256))
	e := a.p.Write(n, page(x))
	switch {
	case a.state == idle:
		want(w.t, "Write", e, api.ErrState)
	case a.stale:
		want(w.t, "Write upon what is past", e, api.ErrBusy)
	case e == api.ErrBusy:
		if !w.others(c, wrote) {
			w.t.Fatal("Write: busy")
		}
	case e != api.OK:
		w.hit(c, e)
	default:
		a.state, a.pages = wrote, put(a.pages, n, x)
	}
	if w.actors[c].state >= reading {
		wantInside(w.t, a.p, a.pages)
	}
}

func (w *world) stepCommit(c int, a *actor) {
	w.t.Helper()
	e := a.p.Commit()
	switch {
	case a.state == idle:
		want(w.t, "Commit", e, api.ErrState)
	case e == api.OK:
		if a.state == wrote {
			w.now, w.open = a.pages, false
			w.commits++
			for i := range w.actors {
				w.actors[i].stale = w.actors[i].state >= reading
			}
		}
		*a = actor{p: a.p, state: idle}
		wantLevel(w.t, w.l, c, api.LockNone)
	case a.state == reading:
		w.t.Fatalf("Commit of nothing: %v", e)
	case e == api.ErrBusy:
		if !w.others(c, reading) {
			w.t.Fatal("Commit: busy")
		}
		wantInside(w.t, a.p, a.pages)
	default:
		w.flight, w.open = a.pages, true
		w.hit(c, e)
	}
}

func (w *world) stepEnd(c int, a *actor) {
	w.t.Helper()
	if a.state == idle {
		want(w.t, "Rollback", a.p.Rollback(), api.ErrState)
		return
	}
	want(w.t, "Rollback", a.p.Rollback(), api.OK)
	*a = actor{p: a.p, state: idle}
	wantLevel(w.t, w.l, c, api.LockNone)
}

func (w *world) stepMark(a *actor) {
	w.t.Helper()
	if a.state == idle {
		_, e := a.p.Mark()
		want(w.t, "Mark", e, api.ErrState)
		return
	}
	if len(a.marks) == 0 || w.r.Intn(3) == 0 {
		a.marks = append(a.marks, saved{setMark(w.t, a.p), a.pages})
		return
	}
	i := w.r.Intn(len(a.marks))
	want(w.t, "Back", a.p.Back(a.marks[i].number), api.OK)
	a.pages = a.marks[i].pages
	a.marks = a.marks[:i+1]
	wantInside(w.t, a.p, a.pages)
}

func (w *world) stepFold(c int, a *actor) {
	w.t.Helper()
	e := a.p.Fold()
	switch {
	case a.state != idle:
		want(w.t, "Fold", e, api.ErrState)
	case e == api.ErrBusy:
		if !w.others(c, reading) {
			w.t.Fatal("Fold: busy")
		}
	case e != api.OK:
		w.hit(c, e)
	default:
		w.wantFolded()
	}
}

// wantFolded asks that base alone is there, safe, with what is committed.
func (w *world) wantFolded() {
	w.t.Helper()
	files := w.d.Crash(picks(w.r))
	if len(files) == 0 {
		w.settle("")
		return
	}
	if len(files) != 1 || files[0].Name != "base" {
		w.t.Fatalf("%d files", len(files))
	}
	l := []byte{}
	for p := range slices.Chunk(files[0].Data, api.PageSize) {
		l = append(l, p[1])
	}
	if !bytes.Equal(files[0].Data, image(string(l))) {
		w.t.Fatalf("no pages: %x", files[0].Data)
	}
	w.settle(string(l))
}

// P12.1 to P12.7: long runs of several pagers of both modes, with refusals and crashes, held against the chapter's words.
func TestRuns(t *testing.T) {
	commits, crashes, refused := 0, 0, 0
	for seed := range int64(4000) {
		w := &world{t: t, r: rand.New(rand.NewSource(seed)), conns: 1 + int(seed)%api.Conns}
		w.anew(nil)
		for range 250 {
			w.step()
		}
		commits, crashes, refused = commits+w.commits, crashes+w.crashes, refused+w.refused
		for range 3 {
			w.wantFound()
		}
	}
	if commits < 10000 || crashes < 1500 || refused < 4000 {
		t.Errorf("too little was tried: %d commits, %d crashes, %d refusals", commits, crashes, refused)
	}
}

// wantFound crashes, and asks what is committed then.
func (w *world) wantFound() {
	w.t.Helper()
	w.d, w.l = newDisk(w.t, w.d.Crash(picks(w.r))), locks.New()
	w.settle(committed(w.t, open(w.t, w.d, modes()[w.r.Intn(2)])))
}

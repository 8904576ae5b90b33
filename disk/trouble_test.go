package disk

import (
	"fmt"
	"math"
	"testing"

	"cadastre/api"
)

// stroke is one to be done on a disk of begun, with what is seen and what is safe behind it.
type stroke struct {
	name string
	do   func(d *Disk) api.Errno
	told api.Errno // without a trouble
	seen []api.File
	safe []api.File
}

func begun() []api.File { return []api.File{text("e", "E"), text("f", "safe")} }

func strokes() []stroke {
	e := text("e", "E")
	return []stroke{
		{"Write", func(d *Disk) api.Errno { return d.Write("f", 2, []byte("xyz")) }, api.OK,
			[]api.File{e, text("f", "saxyz")}, begun()},
		{"Write of a new one", func(d *Disk) api.Errno { return d.Write("g", 1, []byte("x")) }, api.OK,
			[]api.File{e, text("f", "safe"), text("g", "\x00x")}, append(begun(), text("g", ""))},
		{"Truncate to fewer", func(d *Disk) api.Errno { return d.Truncate("f", 1) }, api.OK,
			[]api.File{e, text("f", "s")}, begun()},
		{"Truncate to more", func(d *Disk) api.Errno { return d.Truncate("f", 5) }, api.OK,
			[]api.File{e, text("f", "safe\x00")}, begun()},
		{"Truncate of none", func(d *Disk) api.Errno { return d.Truncate("no", 5) }, api.ErrName,
			begun(), begun()},
		{"Sync", func(d *Disk) api.Errno { return d.Sync("f") }, api.OK,
			begun(), begun()},
		{"Sync of none", func(d *Disk) api.Errno { return d.Sync("no") }, api.ErrName,
			begun(), begun()},
		{"Delete", func(d *Disk) api.Errno { return d.Delete("f") }, api.OK,
			[]api.File{e}, []api.File{e}},
		{"Delete of none", func(d *Disk) api.Errno { return d.Delete("no") }, api.ErrName,
			begun(), begun()},
	}
}

func ones() []int { return []int{1, 1, 1, 1, 1, 1, 1, 1, 1, 1} }

func wantAllSeen(t *testing.T, d *Disk, files []api.File) {
	t.Helper()
	var names []string
	for _, f := range files {
		names = append(names, f.Name)
		wantSeen(t, d, f.Name, string(f.Data))
	}
	wantList(t, d, names...)
}

// wantDark asks of a disk whose power went off that every call is refused, that strokes are counted all the same, and
// that what is found does not change.
func wantDark(t *testing.T, d *Disk) {
	t.Helper()
	n, before, beforeAll := d.Strokes(), d.Crash(nil), d.Crash(ones())
	for _, name := range []string{"e", "f", "no"} {
		want(t, "Write in the dark", d.Write(name, 0, []byte("q")), api.ErrIO)
		want(t, "Truncate in the dark", d.Truncate(name, 0), api.ErrIO)
		want(t, "Sync in the dark", d.Sync(name), api.ErrIO)
		want(t, "Delete in the dark", d.Delete(name), api.ErrIO)
		if b, e := d.Read(name, 0, 1); len(b) != 0 || e != api.ErrIO {
			t.Errorf("Read in the dark: %q, %d", b, e)
		}
		if k, e := d.Size(name); k != 0 || e != api.ErrIO {
			t.Errorf("Size in the dark: %d, %d", k, e)
		}
	}
	if l, e := d.List(); len(l) != 0 || e != api.ErrIO {
		t.Errorf("List in the dark: %q, %d", l, e)
	}
	wantStrokes(t, d, n+12)
	wantDarkForm(t, d)
	wantStrokes(t, d, n+12)
	wantCrash(t, d, nil, before...)
	wantCrash(t, d, ones(), beforeAll...)
}

// wantDarkForm asks that ErrForm goes ahead of ErrIO.
func wantDarkForm(t *testing.T, d *Disk) {
	t.Helper()
	want(t, "Write", d.Write("F", 0, []byte("q")), api.ErrForm)
	want(t, "Write", d.Write("f", 0, nil), api.ErrForm)
	want(t, "Write", d.Write("f", -1, []byte("q")), api.ErrForm)
	want(t, "Truncate", d.Truncate("", 0), api.ErrForm)
	want(t, "Truncate", d.Truncate("f", -1), api.ErrForm)
	want(t, "Sync", d.Sync("_"), api.ErrForm)
	want(t, "Delete", d.Delete("_"), api.ErrForm)
	for _, c := range []struct {
		name  string
		at, n int
	}{{"_", 0, 1}, {"f", -1, 1}, {"f", 0, -1}, {"f", api.MaxFile + 1, 1}, {"f", 0, api.MaxFile + 1}} {
		if b, e := d.Read(c.name, c.at, c.n); len(b) != 0 || e != api.ErrForm {
			t.Errorf("Read(%q, %d, %d): %q, %d", c.name, c.at, c.n, b, e)
		}
	}
	if n, e := d.Size("_"); n != 0 || e != api.ErrForm {
		t.Errorf("Size: %d, %d", n, e)
	}
}

// P9.2: each stroke without a trouble, with those of other strokes alone.
func TestNoTrouble(t *testing.T) {
	for _, s := range strokes() {
		d := fresh(t, begun(), trouble(2, api.TroubleOff), trouble(math.MaxInt, api.TroubleIO))
		want(t, s.name, s.do(d), s.told)
		wantStrokes(t, d, 1)
		wantAllSeen(t, d, s.seen)
		wantCrash(t, d, nil, s.safe...)
		wantCrash(t, d, ones(), s.seen...)
	}
}

// P9.2: at TroubleIO and TroubleFull each stroke is refused, and counted, and nothing is done; the next one goes on.
func TestRefused(t *testing.T) {
	for kind, told := range map[int]api.Errno{api.TroubleIO: api.ErrIO, api.TroubleFull: api.ErrFull} {
		for _, s := range strokes() {
			d := fresh(t, begun(), trouble(1, kind), trouble(2, kind))
			for range 2 {
				want(t, s.name, s.do(d), told)
				wantAllSeen(t, d, begun())
				wantCrash(t, d, nil, begun()...)
				wantCrash(t, d, ones(), begun()...)
			}
			wantStrokes(t, d, 2)
			want(t, s.name, s.do(d), s.told)
			wantAllSeen(t, d, s.seen)
			wantCrash(t, d, nil, s.safe...)
			wantStrokes(t, d, 3)
		}
	}
}

// P9.2: at TroubleIO and TroubleFull a Sync makes nothing safe.
func TestRefusedSync(t *testing.T) {
	for kind, told := range map[int]api.Errno{api.TroubleIO: api.ErrIO, api.TroubleFull: api.ErrFull} {
		d := fresh(t, begun(), trouble(2, kind))
		want(t, "Write", d.Write("f", 0, []byte("S")), api.OK)
		want(t, "Sync", d.Sync("f"), told)
		wantSeen(t, d, "f", "Safe")
		wantCrash(t, d, nil, begun()...)
		wantCrash(t, d, ones(), text("e", "E"), text("f", "Safe"))
		want(t, "Sync", d.Sync("f"), api.OK)
		wantCrash(t, d, nil, text("e", "E"), text("f", "Safe"))
	}
}

// P9.2, P9.3: at TroubleOff each stroke is done, makes nothing safe, is told ErrIO, and every call behind it is refused.
func TestOff(t *testing.T) {
	for _, s := range strokes() {
		d := fresh(t, begun(), trouble(1, api.TroubleOff))
		want(t, s.name, s.do(d), api.ErrIO)
		wantStrokes(t, d, 1)
		wantCrash(t, d, nil, s.safe...)
		wantCrash(t, d, ones(), s.seen...)
		wantDark(t, d)
	}
}

// P9.2: a Sync with TroubleOff makes nothing safe, and loses nothing that was.
func TestOffSync(t *testing.T) {
	d := fresh(t, begun(), trouble(4, api.TroubleOff))
	want(t, "Write", d.Write("f", 0, []byte("S")), api.OK)
	want(t, "Sync", d.Sync("f"), api.OK)
	want(t, "Write", d.Write("f", 1, []byte("AFER")), api.OK)
	want(t, "Sync", d.Sync("f"), api.ErrIO)
	wantCrash(t, d, nil, text("e", "E"), text("f", "Safe"))
	wantCrash(t, d, []int{1, 0}, text("e", "E"), text("f", "Safe\x00"))
	wantCrash(t, d, ones(), text("e", "E"), text("f", "SAFER"))
	wantDark(t, d)
}

// P9.2: a stroke with TroubleOff that cannot be done is told ErrIO, changes nothing, and the power is off.
func TestOffUndone(t *testing.T) {
	for _, do := range []func(d *Disk) api.Errno{
		func(d *Disk) api.Errno { return d.Write("new", 0, []byte("x")) },
		func(d *Disk) api.Errno { return d.Truncate("new", 0) },
		func(d *Disk) api.Errno { return d.Sync("new") },
		func(d *Disk) api.Errno { return d.Delete("new") },
	} {
		d := fresh(t, many(api.MaxFiles), trouble(1, api.TroubleOff))
		want(t, "the stroke", do(d), api.ErrIO)
		wantCrash(t, d, ones(), many(api.MaxFiles)...)
		wantDark(t, d)
	}
}

// P9.2, R4: a trouble goes ahead of ErrFull and ErrName.
func TestTroubleFirst(t *testing.T) {
	d := fresh(t, many(api.MaxFiles), trouble(1, api.TroubleIO), trouble(2, api.TroubleIO), trouble(3, api.TroubleFull), trouble(4, api.TroubleFull), trouble(5, api.TroubleFull))
	want(t, "Write", d.Write("no", 0, []byte("x")), api.ErrIO)
	want(t, "Truncate", d.Truncate("no", 0), api.ErrIO)
	want(t, "Truncate", d.Truncate("no", 0), api.ErrFull)
	want(t, "Sync", d.Sync("no"), api.ErrFull)
	want(t, "Delete", d.Delete("no"), api.ErrFull)
	want(t, "Write", d.Write("no", 0, []byte("x")), api.ErrFull)
	want(t, "Truncate", d.Truncate("no", 0), api.ErrName)
	want(t, "Sync", d.Sync("no"), api.ErrName)
	want(t, "Delete", d.Delete("no"), api.ErrName)
	wantStrokes(t, d, 9)
}

// P9.2, R4: calls that are told ErrForm are no strokes: their troubles wait for the next one.
func TestFormFirst(t *testing.T) {
	for _, kind := range []int{api.TroubleIO, api.TroubleFull, api.TroubleOff} {
		d := fresh(t, begun(), trouble(1, kind))
		want(t, "Write", d.Write("F", 0, []byte("q")), api.ErrForm)
		want(t, "Write", d.Write("f", 0, nil), api.ErrForm)
		want(t, "Write", d.Write("f", -1, []byte("q")), api.ErrForm)
		want(t, "Write", d.Write("f", api.MaxFile, []byte("q")), api.ErrForm)
		want(t, "Truncate", d.Truncate("", 0), api.ErrForm)
		want(t, "Truncate", d.Truncate("f", -1), api.ErrForm)
		want(t, "Sync", d.Sync("_"), api.ErrForm)
		want(t, "Delete", d.Delete("_"), api.ErrForm)
		wantStrokes(t, d, 0)
		wantAllSeen(t, d, begun())
		told := api.ErrIO
		if kind == api.TroubleFull {
			told = api.ErrFull
		}
		want(t, "the first stroke", d.Sync("f"), told)
		wantStrokes(t, d, 1)
	}
}

// P9.2: of several troubles of one stroke the first one counts, in whatever order strokes are named.
func TestSeveralTroubles(t *testing.T) {
	kinds := []int{api.TroubleIO, api.TroubleFull, api.TroubleOff}
	for _, first := range kinds {
		for _, second := range kinds {
			for _, third := range kinds {
				d := fresh(t, begun(), trouble(9, third), trouble(2, first), trouble(1, api.TroubleIO), trouble(2, second), trouble(1, third), trouble(2, third))
				want(t, "stroke 1", d.Truncate("f", 0), api.ErrIO)
				wantSeen(t, d, "f", "safe")
				told := map[int]api.Errno{api.TroubleIO: api.ErrIO, api.TroubleFull: api.ErrFull, api.TroubleOff: api.ErrIO}[first]
				want(t, "stroke 2", d.Truncate("f", 1), told)
				if first == api.TroubleOff {
					wantCrash(t, d, ones(), text("e", "E"), text("f", "s"))
					wantDark(t, d)
					continue
				}
				want(t, "stroke 3", d.Truncate("f", 2), api.OK)
				wantSeen(t, d, "f", "sa")
			}
		}
	}
}

// P9.2: a trouble hits the stroke of its number, no call between them.
func TestTroubleAt(t *testing.T) {
	for at := 1; at <= 20; at++ {
		d := fresh(t, begun(), trouble(at, api.TroubleIO))
		for i := 1; i <= 25; i++ {
			told := api.OK
			if i == at {
				told = api.ErrIO
			}
			want(t, fmt.Sprint("stroke ", i), d.Write("f", i, []byte("x")), told)
			d.Read("f", 0, 1)
			d.Size("f")
			d.List()
			d.Crash(ones())
			d.Sync("")
		}
		wantStrokes(t, d, 25)
	}
}

// P9.2: troubles of strokes behind the power's going off count for nothing.
func TestTroubleInTheDark(t *testing.T) {
	d := fresh(t, begun(), trouble(1, api.TroubleOff), trouble(2, api.TroubleFull), trouble(3, api.TroubleOff), trouble(4, api.TroubleIO))
	for range 5 {
		want(t, "Write", d.Write("f", 0, []byte("x")), api.ErrIO)
	}
	wantStrokes(t, d, 5)
	wantCrash(t, d, nil, begun()...)
}

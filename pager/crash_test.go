package pager

import (
	"bytes"
	"fmt"
	"math/rand"
	"testing"

	"cadastre/api"
	"cadastre/disk"
	"cadastre/locks"
)

// script tells the pages behind each of some commits: pages changed, added, and far behind.
func script() []string {
	return []string{"ab", "cb", "cbd", "ebf", "ebf\x00\x00g", "hijklm", "hijklmn", "o"}
}

// play commits the script's pages by a pager over d, folding behind the fifth, until something is refused: what it told,
// what was committed, and what was in flight.
func play(p *Pager) (e api.Errno, now, next string) {
	for k, s := range script() {
		if e = p.Begin(); e != api.OK {
			return e, now, now
		}
		for n, c := range []byte(s) {
			p.Write(n, page(c))
		}
		next = behind(k + 1)
		if e = p.Commit(); e != api.OK {
			return e, now, next
		}
		now = next
		if k == 4 {
			if e = p.Fold(); e != api.OK {
				return e, now, now
			}
		}
	}
	return api.OK, now, now
}

// behind tells the pages behind the script's first k commits.
func behind(k int) string {
	pages := ""
	for _, s := range script()[:k] {
		for n, c := range []byte(s) {
			pages = put(pages, n, c)
		}
	}
	return pages
}

// strokesOf tells how many strokes the script has.
func strokesOf(t *testing.T, mode int) int {
	t.Helper()
	d := newDisk(t, nil)
	if e, now, _ := play(open(t, d, mode)); e != api.OK || now != behind(len(script())) {
		t.Fatalf("%v, %q", e, now)
	}
	return d.Strokes()
}

// found tells what is committed on d.
func found(t *testing.T, d *disk.Disk, mode int) string {
	t.Helper()
	return committed(t, open(t, d, mode))
}

func wantEither(t *testing.T, what, got, now, next string) {
	t.Helper()
	if got != now && got != next {
		t.Fatalf("%s: %q, want %q or %q", what, got, now, next)
	}
}

// P12.4, P12.7: at each stroke the disk refuses: the pager is put out, and another one, opened or begun, settles it; it
// stays so behind a crash.
func TestRefused(t *testing.T) {
	for _, mode := range modes() {
		for at := 1; at <= strokesOf(t, mode); at++ {
			for kind := api.TroubleIO; kind <= api.TroubleFull; kind++ {
				for way := range 4 {
					refuseAt(t, mode, modes()[way%2], api.Trouble{At: at, Kind: kind}, way/2 == 0)
				}
			}
		}
	}
}

// refuseAt plays with one refusal; the one who settles was open already, or is opened behind it.
func refuseAt(t *testing.T, mode, other int, trouble api.Trouble, already bool) {
	t.Helper()
	what := fmt.Sprint(mode, other, trouble, already)
	d, l := newDisk(t, nil, trouble), locks.New()
	p, q := openConn(t, d, mode, l, 0), openConn(t, d, other, l, 1)
	e, now, next := play(p)
	wanted := api.ErrIO
	if trouble.Kind == api.TroubleFull {
		wanted = api.ErrFull
	}
	want(t, what, e, wanted)
	wantOut(t, p)
	if d.Strokes() != trouble.At {
		t.Fatalf("%s: %d strokes behind the refused one", what, d.Strokes()-trouble.At)
	}
	wantLevel(t, l, 0, api.LockNone)
	if !already {
		q = openConn(t, d, other, l, 0)
	}
	s := committed(t, q)
	wantEither(t, what, s, now, next)
	for _, pick := range somePicks(20) {
		if again := found(t, newDisk(t, d.Crash(pick)), mode); again != s {
			t.Fatalf("%s: settled as %q, then %q", what, s, again)
		}
	}
	commitAll(t, q, "xyz")
	wantCommitted(t, q, "xyz"+s[min(3, len(s)):])
	want(t, "Fold", q.Fold(), api.OK)
	wantBaseAlone(t, d, committed(t, q))
}

// somePicks tells n lists of picks: none, all, and others.
func somePicks(n int) [][]int {
	r := rand.New(rand.NewSource(int64(n)))
	l := [][]int{nil, bytesOf(1), bytesOf(2 + 3*5), bytesOf(5 + 3*40)}
	for len(l) < n {
		l = append(l, picks(r))
	}
	return l
}

func bytesOf(pick int) []int {
	l := make([]int, 300)
	for i := range l {
		l[i] = pick
	}
	return l
}

// P12.1, P12.7: the power goes at each stroke, then at each stroke of an opening, and again; what is found is one commit's.
func TestPower(t *testing.T) {
	for _, mode := range modes() {
		for at := 1; at <= strokesOf(t, mode); at++ {
			d := newDisk(t, nil, api.Trouble{At: at, Kind: api.TroubleOff})
			p := open(t, d, mode)
			e, now, next := play(p)
			want(t, "play", e, api.ErrIO)
			wantOut(t, p)
			for i, pick := range somePicks(12) {
				reopen(t, fmt.Sprint(mode, at, i), d.Crash(pick), modes()[i%2], now, next, 2)
			}
		}
	}
}

// reopen opens, with a trouble at each stroke that the opening has, and asks what is found.
func reopen(t *testing.T, what string, files []api.File, mode int, now, next string, deep int) {
	t.Helper()
	d := newDisk(t, files)
	s := found(t, d, mode)
	wantEither(t, what, s, now, next)
	for _, pick := range somePicks(4) {
		if again := found(t, newDisk(t, d.Crash(pick)), mode); again != s {
			t.Fatalf("%s: settled as %q, then %q", what, s, again)
		}
	}
	strokes := d.Strokes()
	for at := 1; at <= strokes; at++ {
		for kind := api.TroubleIO; kind <= api.TroubleOff; kind++ {
			x := newDisk(t, files, api.Trouble{At: at, Kind: kind})
			p, e := Open(x, mode, locks.New(), 0)
			if p != nil || e != api.ErrIO && e != api.ErrFull {
				t.Fatalf("%s: opened in spite of %d at %d: %v", what, kind, at, e)
			}
			if x.Strokes() != at {
				t.Fatalf("%s: %d strokes behind the refused one", what, x.Strokes()-at)
			}
			if kind != api.TroubleOff {
				wantEither(t, what, found(t, x, mode), now, next)
			}
			if deep > 0 {
				pick := somePicks(at + 4)[at+3]
				reopen(t, fmt.Sprint(what, "/", at, kind), x.Crash(pick), modes()[at%2], now, next, deep-1)
			}
		}
	}
}

// P12.7: a commit's last strokes with every sector kept, lost or torn by itself, over base that was there.
func TestSectors(t *testing.T) {
	for _, mode := range modes() {
		first := newDisk(t, base("uvw"))
		commitAll(t, open(t, first, mode), "ab")
		files := first.Crash(nil)
		for at := 1; ; at++ {
			d := newDisk(t, files, api.Trouble{At: at, Kind: api.TroubleOff})
			p := open(t, d, mode)
			begin(t, p)
			write(t, p, 0, 'x')
			write(t, p, 2, 'y')
			write(t, p, 3, 'z')
			if p.Commit() == api.OK {
				break
			}
			for i := range 40 {
				for _, pick := range []int{1, 2 + 3*1, 2 + 3*33, 2 + 3*63, 2 + 3*64} {
					for _, rest := range []int{0, 1} {
						l := bytesOf(rest)
						l[i] = pick
						for _, length := range []int{0, 1} {
							l[0] = length
							wantEither(t, fmt.Sprint(mode, at, i, pick, rest), found(t, newDisk(t, d.Crash(l)), mode), "abw", "xbyz")
						}
					}
				}
			}
		}
	}
}

// P12.4: told OK it is safe: a crash right behind any commit, with nothing kept that was not synced, and with all.
func TestSafe(t *testing.T) {
	for _, mode := range modes() {
		d := newDisk(t, nil)
		p := open(t, d, mode)
		for k, s := range script() {
			commitAll(t, p, s)
			for _, pick := range somePicks(6) {
				for _, other := range modes() {
					if got := found(t, newDisk(t, d.Crash(pick)), other); got != behind(k+1) {
						t.Fatalf("%d: %q, want %q", k, got, behind(k+1))
					}
				}
			}
		}
	}
}

// P12.4: trouble upon trouble, each at the stroke where the last one's settling ends.
func TestTroubleUponTrouble(t *testing.T) {
	for _, mode := range modes() {
		for at := 1; at <= strokesOf(t, mode); at++ {
			for more := 1; more < 5; more++ {
				var troubles []api.Trouble
				for k := range more {
					troubles = append(troubles, api.Trouble{At: at + k, Kind: api.TroubleIO})
				}
				d := newDisk(t, nil, troubles...)
				_, now, next := play(open(t, d, mode))
				for range more {
					Open(d, mode, locks.New(), 0)
				}
				s := found(t, d, mode)
				wantEither(t, fmt.Sprint(mode, at, more), s, now, next)
				if again := found(t, newDisk(t, d.Crash(nil)), mode); again != s {
					t.Fatalf("%d, %d: settled as %q, then %q", at, more, s, again)
				}
			}
		}
	}
}

// P12.4: of a log that is damaged nothing comes back behind a commit in the damaged place.
func TestDamagedLog(t *testing.T) {
	for _, mode := range modes() {
		d := newDisk(t, nil)
		p := open(t, d, api.ModeLog)
		for _, s := range []string{"ab", "cd", "ef"} {
			commitAll(t, p, s)
		}
		files := d.Crash(nil)
		if len(files) != 1 {
			t.Fatalf("%d files", len(files))
		}
		files[0].Data[100]++
		d = newDisk(t, files)
		p = open(t, d, mode)
		wantCommitted(t, p, "")
		commitAll(t, p, "xy")
		wantCommitted(t, p, "xy")
		want(t, "Fold", p.Fold(), api.OK)
		wantBaseAlone(t, d, "xy")
	}
}

// Files of base whose length is none: their bytes are pages, noughts behind them, as far as pages go.
func TestOddBase(t *testing.T) {
	for _, mode := range modes() {
		for _, c := range []struct{ bytes, pages int }{{1, 1}, {511, 1}, {513, 2}, {700, 2}, {api.MaxPages*api.PageSize + 1, api.MaxPages}, {api.MaxFile, api.MaxPages}} {
			data := bytes.Repeat([]byte{7}, c.bytes)
			p := open(t, newDisk(t, []api.File{{Name: "base", Data: data}}), mode)
			begin(t, p)
			if p.Count() != c.pages {
				t.Errorf("%d: %d pages, want %d", c.bytes, p.Count(), c.pages)
			}
			n := c.pages - 1
			b, e := p.Read(n)
			part := min(c.bytes-n*api.PageSize, api.PageSize)
			if e != api.OK || !bytes.Equal(b[:part], data[:part]) || !bytes.Equal(b[part:], make([]byte, api.PageSize-part)) {
				t.Errorf("%d: %x, %v", c.bytes, b, e)
			}
			write(t, p, 0, 'a')
			commit(t, p)
			want(t, "Fold", p.Fold(), api.OK)
			begin(t, p)
			if b, e := p.Read(0); e != api.OK || p.Count() != c.pages || !bytes.Equal(b, page('a')) {
				t.Errorf("%d: %x, %v, %d pages", c.bytes, b, e, p.Count())
			}
		}
	}
}

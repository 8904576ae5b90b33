package disk

import (
	"bytes"
	"fmt"
	"maps"
	"math"
	"math/big"
	"math/rand"
	"slices"
	"strings"
	"testing"

	"cadastre/api"
)

func rep(s string, n int) string { return strings.Repeat(s, n) }

func noughts(n int) string { return rep("\x00", n) }

// P9.4: the chapter's example.
func TestExample(t *testing.T) {
	d := fresh(t, nil)
	want(t, "Write", d.Write("a", 0, []byte(rep("x", 70))), api.OK)
	wantCrash(t, d, []int{1, 1, 0}, text("a", rep("x", 64)+noughts(6)))
}

// P9.4: a file that grew: the first pick is its length's, then one a sector that is unlike.
func TestCrashGrown(t *testing.T) {
	d := fresh(t, []api.File{text("f", rep("s", 100))})
	want(t, "Write", d.Write("f", 90, []byte(rep("n", 60))), api.OK)
	for _, c := range []struct {
		picks []int
		f     string
	}{
		{nil, rep("s", 100)},
		{[]int{0, 0, 0}, rep("s", 100)},
		{[]int{1}, rep("s", 100) + noughts(50)},
		{[]int{1, 0, 0}, rep("s", 100) + noughts(50)},
		{[]int{1, 1}, rep("s", 90) + rep("n", 38) + noughts(22)},
		{[]int{1, 0, 1}, rep("s", 100) + noughts(28) + rep("n", 22)},
		{[]int{1, 1, 1}, rep("s", 90) + rep("n", 60)},
		{[]int{0, 1, 1}, rep("s", 90) + rep("n", 10)},
		{[]int{2, 1, 1}, rep("s", 90) + rep("n", 10)},
		{[]int{3, 4, 7}, rep("s", 90) + rep("n", 60)},
		{[]int{-1, -2, -5}, rep("s", 90) + rep("n", 60)},
		{[]int{-2, -3, -6}, rep("s", 100)},
		{[]int{1, 1, 1, 1, 1, 1}, rep("s", 90) + rep("n", 60)},
		{[]int{1, 2 + 3*30, 2 + 3*1}, rep("s", 90) + "nnnn" + rep("s", 6) + noughts(28) + "n" + noughts(21)},
	} {
		wantCrash(t, d, c.picks, text("f", c.f))
	}
}

// P9.4: a file that was cut: the sectors go up to the longer one's end, and what is found is cut behind them.
func TestCrashCut(t *testing.T) {
	d := fresh(t, []api.File{text("f", rep("s", 200)), text("g", "gg")})
	want(t, "Truncate", d.Truncate("f", 70), api.OK)
	want(t, "Write", d.Write("g", 0, []byte("h")), api.OK)
	for _, c := range []struct {
		picks []int
		f, g  string
	}{
		{nil, rep("s", 200), "gg"},
		{[]int{1}, rep("s", 70), "gg"},
		{[]int{1, 1, 1, 1, 1}, rep("s", 70), "hg"},
		{[]int{1, 1, 1, 1, 0}, rep("s", 70), "gg"},
		{[]int{0, 1, 0, 0, 1}, rep("s", 70) + noughts(58) + rep("s", 72), "hg"},
		{[]int{0, 0, 1, 0, 1}, rep("s", 128) + noughts(64) + rep("s", 8), "hg"},
		{[]int{0, 0, 0, 1, 1}, rep("s", 192) + noughts(8), "hg"},
		{[]int{0, 2 + 3*7, 2 + 3*64, 2 + 3*0, 0}, rep("s", 70) + "\x00" + rep("s", 57) + noughts(64) + rep("s", 8), "gg"},
	} {
		wantCrash(t, d, c.picks, text("f", c.f), text("g", c.g))
	}
}

// P9.4: a file that was cut and filled again has as many bytes, so that no pick is its length's.
func TestCrashCutAndFilled(t *testing.T) {
	d := fresh(t, []api.File{text("f", rep("s", 130))})
	want(t, "Truncate", d.Truncate("f", 10), api.OK)
	want(t, "Truncate", d.Truncate("f", 130), api.OK)
	wantCrash(t, d, nil, text("f", rep("s", 130)))
	wantCrash(t, d, []int{1}, text("f", rep("s", 10)+noughts(54)+rep("s", 66)))
	wantCrash(t, d, []int{0, 1}, text("f", rep("s", 64)+noughts(64)+"ss"))
	wantCrash(t, d, []int{0, 0, 1}, text("f", rep("s", 128)+noughts(2)))
	wantCrash(t, d, []int{0, 0, 2 + 3*1}, text("f", rep("s", 128)+"\x00s"))
	wantCrash(t, d, ones(), text("f", rep("s", 10)+noughts(120)))
}

// P9.4: a file whose sectors are alike but for noughts behind has a pick for its length, and none for them.
func TestCrashNoughts(t *testing.T) {
	d := fresh(t, []api.File{text("f", "s"), text("g", "g")})
	want(t, "Truncate", d.Truncate("f", 200), api.OK)
	want(t, "Write", d.Write("g", 0, []byte("h")), api.OK)
	wantCrash(t, d, []int{1, 1}, text("f", "s"+noughts(199)), text("g", "h"))
	wantCrash(t, d, []int{0, 1}, text("f", "s"), text("g", "h"))
	wantCrash(t, d, []int{1, 0, 1}, text("f", "s"+noughts(199)), text("g", "g"))
	e := fresh(t, []api.File{text("f", "s"+noughts(199))})
	want(t, "Truncate", e.Truncate("f", 1), api.OK)
	wantCrash(t, e, []int{1}, text("f", "s"))
	wantCrash(t, e, []int{0, 1, 1}, text("f", "s"+noughts(199)))
}

// P9.4: bytes written anew as they were are no change: they take no pick.
func TestCrashUnchanged(t *testing.T) {
	d := fresh(t, []api.File{text("f", "abc"), text("g", "g")})
	want(t, "Write", d.Write("f", 0, []byte("abc")), api.OK)
	want(t, "Truncate", d.Truncate("f", 3), api.OK)
	want(t, "Write", d.Write("f", 0, []byte("xyzw")), api.OK)
	want(t, "Truncate", d.Truncate("f", 3), api.OK)
	want(t, "Write", d.Write("f", 0, []byte("abc")), api.OK)
	want(t, "Write", d.Write("g", 0, []byte("h")), api.OK)
	wantCrash(t, d, []int{1}, text("f", "abc"), text("g", "h"))
}

// P9.4: picks go from file to file, in the order of names, not of writing.
func TestCrashFiles(t *testing.T) {
	d := fresh(t, []api.File{text("b", "b"), text("d", "d")})
	for _, s := range []string{"d", "b", "c", "a"} {
		want(t, "Write", d.Write(s, 0, []byte("x")), api.OK)
	}
	wantCrash(t, d, []int{1, 1}, text("a", "x"), text("b", "b"), text("c", ""), text("d", "d"))
	wantCrash(t, d, []int{0, 0, 1}, text("a", ""), text("b", "x"), text("c", ""), text("d", "d"))
	wantCrash(t, d, []int{0, 0, 0, 1, 1}, text("a", ""), text("b", "b"), text("c", "x"), text("d", "d"))
	wantCrash(t, d, []int{1, 0, 0, 0, 0, 1}, text("a", "\x00"), text("b", "b"), text("c", ""), text("d", "x"))
	want(t, "Delete", d.Delete("b"), api.OK)
	wantCrash(t, d, []int{0, 0, 0, 0, 1}, text("a", ""), text("c", ""), text("d", "x"))
}

// P9.4: a pick of every rest, from far below 0 to far above, keeps what the rule says, by numbers without bound.
func TestCrashPicks(t *testing.T) {
	d := fresh(t, []api.File{text("f", rep("s", 64))})
	want(t, "Write", d.Write("f", 0, []byte(rep("n", 64))), api.OK)
	var l []int
	for p := -500; p <= 500; p++ {
		l = append(l, p)
	}
	for i := range 500 {
		l = append(l, math.MaxInt-i, math.MinInt+i)
	}
	for _, p := range l {
		k := keptOf(p)
		wantCrash(t, d, []int{p}, text("f", rep("n", k)+rep("s", 64-k)))
	}
}

// keptOf tells how many bytes a pick keeps as seen, by numbers without bound.
func keptOf(p int) int {
	third, rest := new(big.Int).DivMod(big.NewInt(int64(p)), big.NewInt(3), new(big.Int))
	switch rest.Int64() {
	case 0:
		return 0
	case 1:
		return api.Sector
	}
	return int(third.Mod(third, big.NewInt(api.Sector+1)).Int64())
}

// P9.4: a length's pick is odd or not, below 0 too.
func TestCrashLengthPicks(t *testing.T) {
	d := fresh(t, []api.File{text("f", "")})
	want(t, "Truncate", d.Truncate("f", 1), api.OK)
	for _, p := range []int{1, 3, 5, -1, -3, -5, math.MaxInt, math.MinInt + 1} {
		wantCrash(t, d, []int{p}, text("f", "\x00"))
	}
	for _, p := range []int{0, 2, 4, -2, -4, math.MaxInt - 1, math.MinInt} {
		wantCrash(t, d, []int{p}, text("f", ""))
	}
}

// P9.4: files of MaxFile bytes, the last sector among them.
func TestCrashGreat(t *testing.T) {
	d := fresh(t, nil)
	want(t, "Write", d.Write("f", api.MaxFile-1, []byte("x")), api.OK)
	wantCrash(t, d, []int{1, 1}, text("f", noughts(api.MaxFile-1)+"x"))
	wantCrash(t, d, []int{1, 0}, text("f", noughts(api.MaxFile)))
	wantCrash(t, d, nil, text("f", ""))
	want(t, "Sync", d.Sync("f"), api.OK)
	want(t, "Truncate", d.Truncate("f", 0), api.OK)
	wantCrash(t, d, nil, text("f", noughts(api.MaxFile-1)+"x"))
	wantCrash(t, d, []int{0, 1}, text("f", noughts(api.MaxFile)))
	wantCrash(t, d, []int{1, 0}, text("f", ""))
}

// P9.4, R2: a crash changes neither the disk nor the picks, and tells the same again.
func TestCrashIsNoChange(t *testing.T) {
	d := fresh(t, []api.File{text("f", rep("s", 70))})
	want(t, "Write", d.Write("f", 60, []byte(rep("n", 40))), api.OK)
	picks := []int{1, 5, 1, 9, 9}
	first := d.Crash(picks[:3])
	if !slices.Equal(picks, []int{1, 5, 1, 9, 9}) {
		t.Errorf("changed: %v", picks)
	}
	d.Crash(nil)
	d.Crash([]int{7, 7, 7, 7, 7})
	wantCrash(t, d, picks[:3], first...)
	wantSeen(t, d, "f", rep("s", 60)+rep("n", 40))
	wantStrokes(t, d, 1)
	want(t, "Sync", d.Sync("f"), api.OK)
	wantCrash(t, d, nil, text("f", rep("s", 60)+rep("n", 40)))
}

// P9.1, P9.4: what was found makes a disk, and there all of it is safe.
func TestCrashMakesADisk(t *testing.T) {
	d := fresh(t, []api.File{text("a", "a"), text("f", rep("s", 70))})
	want(t, "Write", d.Write("f", 60, []byte(rep("n", 40))), api.OK)
	want(t, "Write", d.Write("g", 0, []byte("g")), api.OK)
	l := d.Crash([]int{1, 1, 0, 0})
	wantCrash(t, fresh(t, l), []int{1, 1, 1}, l...)
}

// model is a disk as the chapter says it, byte by byte.
type model struct {
	safe, seen map[string]string
}

func (m *model) write(name string, at int, b string) {
	old := m.seen[name]
	for len(old) < at {
		old += "\x00"
	}
	behind := ""
	if at+len(b) < len(old) {
		behind = old[at+len(b):]
	}
	m.seen[name] = old[:at] + b + behind
	m.safe[name] += ""
}

func (m *model) truncate(name string, n int) {
	m.seen[name] = (m.seen[name] + noughts(n))[:n]
}

func at(s string, i int) byte {
	if i < len(s) {
		return s[i]
	}
	return 0
}

// crash tells what is found: it is asked byte by byte, and has noughts behind every end.
func (m *model) crash(picks []int) []api.File {
	next := func() int {
		p := 0
		if len(picks) > 0 {
			p, picks = picks[0], picks[1:]
		}
		return p
	}
	var l []api.File
	for _, name := range slices.Sorted(maps.Keys(m.seen)) {
		safe, seen := m.safe[name], m.seen[name]
		n := len(safe)
		if len(seen) != len(safe) && big.NewInt(int64(next())).Bit(0) == 1 {
			n = len(seen)
		}
		var b []byte
		for from := 0; from < len(safe) || from < len(seen); from += 64 {
			unlike := false
			for i := from; i < from+64; i++ {
				unlike = unlike || at(safe, i) != at(seen, i)
			}
			k := 0
			if unlike {
				k = keptOf(next())
			}
			for i := from; i < from+64; i++ {
				if i-from < k {
					b = append(b, at(seen, i))
				} else {
					b = append(b, at(safe, i))
				}
			}
		}
		l = append(l, api.File{Name: name, Data: append(b, make([]byte, n)...)[:n]})
	}
	return l
}

func somePicks(r *rand.Rand) []int {
	l := make([]int, r.Intn(30))
	for i := range l {
		l[i] = r.Intn(1000) - 500
	}
	return l
}

func someBytes(r *rand.Rand) []byte {
	b := make([]byte, 1+r.Intn(150))
	for i := range b {
		// Few values, so that sectors are alike now and then.
		b[i] = byte(r.Intn(2)) * byte(r.Intn(3))
	}
	return b
}

// step does one stroke to the disk and to its model.
func step(t *testing.T, r *rand.Rand, d *Disk, m *model) {
	t.Helper()
	name := string(rune('a' + r.Intn(4)))
	_, there := m.seen[name]
	told := api.ErrName
	if there {
		told = api.OK
	}
	switch r.Intn(8) {
	case 0, 1, 2:
		from, b := r.Intn(300), someBytes(r)
		want(t, "Write", d.Write(name, from, b), api.OK)
		m.write(name, from, string(b))
	case 3, 4:
		n := r.Intn(300)
		want(t, "Truncate", d.Truncate(name, n), told)
		if there {
			m.truncate(name, n)
		}
	case 5, 6:
		want(t, "Sync", d.Sync(name), told)
		if there {
			m.safe[name] = m.seen[name]
		}
	case 7:
		want(t, "Delete", d.Delete(name), told)
		delete(m.seen, name)
		delete(m.safe, name)
	}
}

// P9.2 to P9.4: long runs of strokes, held against the chapter's words byte by byte.
func TestModel(t *testing.T) {
	for seed := range int64(60) {
		r := rand.New(rand.NewSource(seed))
		d, m := fresh(t, nil), &model{map[string]string{}, map[string]string{}}
		for i := range 60 {
			step(t, r, d, m)
			wantStrokes(t, d, i+1)
			names := slices.Sorted(maps.Keys(m.seen))
			wantList(t, d, names...)
			for _, name := range names {
				wantSeen(t, d, name, m.seen[name])
			}
			for range 3 {
				picks := somePicks(r)
				wantCrash(t, d, picks, m.crash(picks)...)
			}
			if t.Failed() {
				t.Fatalf("seed %d, stroke %d", seed, i+1)
			}
		}
	}
}

// touched is a file's bytes as they were synced, with those that were touched since.
type touched struct {
	bytes []byte
	since []bool
}

// P9.5: what was synced, and not touched since, is in every crash: whole files, and bytes of sectors that were not touched.
func TestWhatFollows(t *testing.T) {
	for seed := range int64(100) {
		r := rand.New(rand.NewSource(seed))
		whole := bytes.Repeat([]byte{7}, 1+r.Intn(300))
		part := bytes.Repeat([]byte{9}, 640)
		d := fresh(t, nil, trouble(10+r.Intn(30), api.TroubleOff))
		want(t, "Write", d.Write("whole", 0, whole), api.OK)
		want(t, "Sync", d.Sync("whole"), api.OK)
		want(t, "Write", d.Write("part", 0, part), api.OK)
		want(t, "Sync", d.Sync("part"), api.OK)
		f := touched{part, make([]bool, len(part))}
		for range 40 {
			scrawl(r, d, &f)
			wantKept(t, d.Crash(somePicks(r)), whole, f)
		}
		if t.Failed() {
			t.Fatalf("seed %d", seed)
		}
	}
}

// scrawl writes into the file part, within its bytes, and into another one, and tells f the sectors that it touched.
func scrawl(r *rand.Rand, d *Disk, f *touched) {
	from, b := r.Intn(640), someBytes(r)
	b = b[:min(len(b), 640-from)]
	d.Write("part", from, b)
	for i := from / 64 * 64; i < min(640, (from+len(b)+63)/64*64); i++ {
		f.since[i] = true
	}
	d.Write("other", r.Intn(200), someBytes(r))
	d.Sync("other")
}

func wantKept(t *testing.T, l []api.File, whole []byte, f touched) {
	t.Helper()
	for _, file := range l {
		switch file.Name {
		case "whole":
			if !bytes.Equal(file.Data, whole) {
				t.Errorf("whole: %s", short(file.Data))
			}
		case "part":
			for i, c := range f.bytes {
				if !f.since[i] && file.Data[i] != c {
					t.Errorf("byte %d: %d, want %d", i, file.Data[i], c)
				}
			}
		}
	}
	if len(l) < 2 || l[len(l)-1].Name != "whole" || l[len(l)-2].Name != "part" {
		t.Errorf("files: %s", showFiles(l))
	}
}

// P9.5: what was synced is kept in the strokes' own file, ahead of a growth, behind a cut that was taken back, whatever is picked.
func TestSyncedStays(t *testing.T) {
	for p := -20; p <= 20; p++ {
		picks := []int{p, p + 1, p + 2, p * 7, p}
		d := fresh(t, []api.File{text("f", rep("s", 128))})
		want(t, "Write", d.Write("f", 128, []byte(rep("n", 100))), api.OK)
		if l := d.Crash(picks); !strings.HasPrefix(string(l[0].Data), rep("s", 128)) {
			t.Errorf("%d: %s", p, showFiles(l))
		}
		want(t, "Sync", d.Sync("f"), api.OK)
		want(t, "Write", d.Write("f", 64, []byte(rep("m", 64))), api.OK)
		l := d.Crash(picks)
		if s := fmt.Sprintf("%s", l[0].Data); s[:64] != rep("s", 64) || s[128:] != rep("n", 100) {
			t.Errorf("%d: %s", p, showFiles(l))
		}
	}
}

package disk

import (
	"bytes"
	"fmt"
	"math"
	"slices"
	"strings"
	"testing"

	"cadastre/api"
)

// fresh tells a disk that has to be one.
func fresh(t *testing.T, files []api.File, troubles ...api.Trouble) *Disk {
	t.Helper()
	d, e := New(files, troubles)
	if e != api.OK || d == nil {
		t.Fatalf("New: %d, a disk: %t", e, d != nil)
	}
	return d
}

func text(name, data string) api.File { return api.File{Name: name, Data: []byte(data)} }

func trouble(at, kind int) api.Trouble { return api.Trouble{At: at, Kind: kind} }

// many tells n files, of one byte each, whose names rise.
func many(n int) []api.File {
	var l []api.File
	for i := range n {
		l = append(l, text(fmt.Sprintf("f%02d", i), "x"))
	}
	return l
}

func want(t *testing.T, what string, got, want api.Errno) {
	t.Helper()
	if got != want {
		t.Errorf("%s: told %d, want %d", what, got, want)
	}
}

func short(b []byte) string { return fmt.Sprintf("%d bytes %.300q", len(b), b) }

// wantSeen holds against s, all that Read and Size tell of a file.
func wantSeen(t *testing.T, d *Disk, name, s string) {
	t.Helper()
	if b, e := d.Read(name, 0, api.MaxFile); e != api.OK || string(b) != s {
		t.Errorf("Read of %s: %s, %d; want %s", name, short(b), e, short([]byte(s)))
	}
	if n, e := d.Size(name); e != api.OK || n != len(s) {
		t.Errorf("Size of %s: %d, %d; want %d", name, n, e, len(s))
	}
}

func wantList(t *testing.T, d *Disk, names ...string) {
	t.Helper()
	if l, e := d.List(); e != api.OK || !slices.Equal(l, names) {
		t.Errorf("List: %q, %d; want %q", l, e, names)
	}
}

func wantStrokes(t *testing.T, d *Disk, n int) {
	t.Helper()
	if d.Strokes() != n {
		t.Errorf("%d strokes, want %d", d.Strokes(), n)
	}
}

func sameFiles(a, b []api.File) bool {
	return slices.EqualFunc(a, b, func(x, y api.File) bool {
		return x.Name == y.Name && bytes.Equal(x.Data, y.Data)
	})
}

func showFiles(l []api.File) string {
	var s []string
	for _, f := range l {
		s = append(s, f.Name+": "+short(f.Data))
	}
	return strings.Join(s, "; ")
}

func wantCrash(t *testing.T, d *Disk, picks []int, files ...api.File) {
	t.Helper()
	if l := d.Crash(picks); !sameFiles(l, files) {
		t.Errorf("Crash(%v): %s; want %s", picks, showFiles(l), showFiles(files))
	}
}

// names are such ones: of one sign, each sign that there is, and of MaxName signs.
func names() []string {
	l := []string{".", "-", "..", "a.b-0", "0", "-.-", strings.Repeat("z", api.MaxName), strings.Repeat(".", api.MaxName)}
	for c := 'a'; c <= 'z'; c++ {
		l = append(l, string(c))
	}
	for c := '1'; c <= '9'; c++ {
		l = append(l, string(c))
	}
	return l
}

// noNames are no names: of no sign, of too many, of every sign that is none, ahead, within and behind.
func noNames() []string {
	l := []string{"", strings.Repeat("a", api.MaxName+1), strings.Repeat("a", 1<<16), "ä", "a\x00", "\xff", "aé", "日"}
	for c := range 256 {
		if strings.IndexByte("abcdefghijklmnopqrstuvwxyz0123456789.-", byte(c)) >= 0 {
			continue
		}
		s := string([]byte{byte(c)})
		l = append(l, s, s+"a", "a"+s, "a"+s+"a", strings.Repeat("a", api.MaxName-1)+s)
	}
	return l
}

// P9.1: a disk has the files that it is made with, all safe.
func TestNew(t *testing.T) {
	for _, l := range [][]api.File{
		nil,
		{},
		{text("a", "")},
		{{Name: "a"}},
		{text("a", "x"), text("b", "")},
		{text("-", "1"), text(".", "2"), text("0", "3"), text("a", "4"), text("aa", "5"), text("b", "6")},
		{text(strings.Repeat("a", 31), "x"), text(strings.Repeat("a", 32), "y")},
		many(api.MaxFiles - 1),
		many(api.MaxFiles),
		{{Name: "big", Data: bytes.Repeat([]byte("b"), api.MaxFile)}},
	} {
		d := fresh(t, l)
		var names []string
		for _, f := range l {
			names = append(names, f.Name)
			wantSeen(t, d, f.Name, string(f.Data))
		}
		wantList(t, d, names...)
		wantStrokes(t, d, 0)
		for _, picks := range [][]int{nil, {1, 1, 1}, {2, 5}} {
			wantCrash(t, d, picks, l...)
		}
	}
}

// P9.1: files that are none, or do not stand in order, make no disk.
func TestNewWrongFiles(t *testing.T) {
	big := make([]byte, api.MaxFile+1)
	l := [][]api.File{
		many(api.MaxFiles + 1),
		many(api.MaxFiles + 20),
		{text("b", ""), text("a", "")},
		{text("a", ""), text("a", "")},
		{text("a", "x"), text("a", "y")},
		{text("a", ""), text("c", ""), text("b", "")},
		{text("a", ""), text("b", ""), text("a", "")},
		{text("aa", ""), text("a", "")},
		{text("a", ""), text("0", "")},
		{text("0", ""), text(".", "")},
		{text(".", ""), text("-", "")},
		{{Name: "a", Data: big}},
		{text("0", ""), {Name: "a", Data: big}},
		{{Name: "a", Data: big}, text("b", "")},
	}
	for _, s := range noNames() {
		l = append(l, []api.File{{Name: s}}, []api.File{text("-", ""), {Name: s}})
	}
	for i, files := range l {
		if d, e := New(files, nil); e != api.ErrForm || d != nil {
			t.Errorf("%d: New of %.100s: %d, a disk: %t", i, showFiles(files), e, d != nil)
		}
	}
}

// P9.1: a trouble's At is from 1 on, its Kind one of three.
func TestNewTroubles(t *testing.T) {
	for _, kind := range []int{api.TroubleIO, api.TroubleFull, api.TroubleOff} {
		for _, at := range []int{1, 2, 3, math.MaxInt} {
			fresh(t, nil, trouble(at, kind))
			fresh(t, nil, trouble(at, kind), trouble(at, kind), trouble(1, kind))
		}
	}
	for _, w := range []api.Trouble{
		{}, trouble(0, api.TroubleIO), trouble(-1, api.TroubleIO), trouble(math.MinInt, api.TroubleOff),
		trouble(1, api.TroubleNone), trouble(1, -1), trouble(1, api.TroubleOff+1), trouble(1, math.MaxInt), trouble(1, math.MinInt),
	} {
		ok := trouble(1, api.TroubleIO)
		for _, l := range [][]api.Trouble{{w}, {ok, w}, {w, ok}, {ok, w, ok}} {
			if d, e := New([]api.File{text("a", "")}, l); e != api.ErrForm || d != nil {
				t.Errorf("New with %v: %d, a disk: %t", l, e, d != nil)
			}
		}
	}
}

// P9.2, P9.3: names of every kind, at every call.
func TestNames(t *testing.T) {
	for _, s := range names() {
		d := fresh(t, nil)
		want(t, "Write", d.Write(s, 0, []byte("xy")), api.OK)
		want(t, "Truncate", d.Truncate(s, 1), api.OK)
		want(t, "Sync", d.Sync(s), api.OK)
		wantSeen(t, d, s, "x")
		wantList(t, d, s)
		wantCrash(t, d, nil, text(s, "x"))
		want(t, "Delete", d.Delete(s), api.OK)
		wantList(t, d)
		wantStrokes(t, d, 4)
	}
	for _, s := range noNames() {
		d := fresh(t, []api.File{text("a", "x")})
		want(t, "Write", d.Write(s, 0, []byte("xy")), api.ErrForm)
		want(t, "Truncate", d.Truncate(s, 1), api.ErrForm)
		want(t, "Sync", d.Sync(s), api.ErrForm)
		want(t, "Delete", d.Delete(s), api.ErrForm)
		b, e := d.Read(s, 0, 1)
		n, f := d.Size(s)
		if len(b) != 0 || n != 0 || e != api.ErrForm || f != api.ErrForm {
			t.Errorf("%q: Read %q, %d; Size %d, %d", s, b, e, n, f)
		}
		wantStrokes(t, d, 0)
		wantCrash(t, d, []int{1, 1}, text("a", "x"))
	}
}

// P9.2: Write within a file, over its end, at its end and beyond it.
func TestWrite(t *testing.T) {
	for _, c := range []struct {
		begun string
		at    int
		b     string
		seen  string
	}{
		{"abcdef", 0, "x", "xbcdef"},
		{"abcdef", 2, "xyz", "abxyzf"},
		{"abcdef", 5, "x", "abcdex"},
		{"abcdef", 0, "uvwxyz", "uvwxyz"},
		{"abcdef", 5, "xy", "abcdexy"},
		{"abcdef", 0, "1234567", "1234567"},
		{"abcdef", 6, "x", "abcdefx"},
		{"abcdef", 7, "x", "abcdef\x00x"},
		{"abcdef", 9, "xy", "abcdef\x00\x00\x00xy"},
		{"", 0, "x", "x"},
		{"", 3, "x", "\x00\x00\x00x"},
		{"", 200, "x", strings.Repeat("\x00", 200) + "x"},
		{"abc", 1, "\x00", "a\x00c"},
	} {
		d := fresh(t, []api.File{text("a", "A"), text("f", c.begun), text("g", "G")})
		want(t, "Write", d.Write("f", c.at, []byte(c.b)), api.OK)
		wantSeen(t, d, "f", c.seen)
		wantSeen(t, d, "a", "A")
		wantSeen(t, d, "g", "G")
		wantCrash(t, d, nil, text("a", "A"), text("f", c.begun), text("g", "G"))
		wantCrash(t, d, []int{1, 1, 1, 1, 1}, text("a", "A"), text("f", c.seen), text("g", "G"))
	}
}

// P9.2: a file that was not there is made, with no safe bytes, at its place among the others.
func TestWriteNew(t *testing.T) {
	for _, c := range []struct {
		name string
		list []string
	}{{"a", []string{"a", "b", "d"}}, {"c", []string{"b", "c", "d"}}, {"e", []string{"b", "d", "e"}}, {"bb", []string{"b", "bb", "d"}}} {
		d := fresh(t, []api.File{text("b", "B"), text("d", "D")})
		want(t, "Write", d.Write(c.name, 1, []byte("xy")), api.OK)
		wantList(t, d, c.list...)
		wantSeen(t, d, c.name, "\x00xy")
		wantSeen(t, d, "b", "B")
		wantSeen(t, d, "d", "D")
		for _, f := range d.Crash(nil) {
			if f.Name == c.name && len(f.Data) != 0 {
				t.Errorf("%s: %q is safe", f.Name, f.Data)
			}
		}
	}
}

// P9.2: Write up to MaxFile, and its ErrForm: no bytes, a place below 0, an end beyond MaxFile.
func TestWriteForm(t *testing.T) {
	d := fresh(t, []api.File{text("f", "abc")})
	all := bytes.Repeat([]byte("x"), api.MaxFile+1)
	for _, c := range []struct {
		at int
		b  []byte
	}{
		{0, nil}, {0, []byte{}}, {2, nil}, {api.MaxFile, nil}, {-1, nil},
		{-1, []byte("x")}, {-1, []byte("xy")}, {math.MinInt, []byte("x")}, {-api.MaxFile, all},
		{api.MaxFile, []byte("x")}, {api.MaxFile + 1, []byte("x")}, {api.MaxFile - 1, []byte("xy")},
		{0, all}, {1, all[1:]}, {math.MaxInt, []byte("x")}, {math.MaxInt - 1, []byte("xy")}, {math.MaxInt - api.MaxFile, all},
	} {
		want(t, fmt.Sprintf("Write at %d of %d", c.at, len(c.b)), d.Write("f", c.at, c.b), api.ErrForm)
		want(t, fmt.Sprintf("Write of a new one at %d of %d", c.at, len(c.b)), d.Write("g", c.at, c.b), api.ErrForm)
	}
	wantSeen(t, d, "f", "abc")
	wantList(t, d, "f")
	wantStrokes(t, d, 0)
	want(t, "Write at the end", d.Write("f", api.MaxFile-1, []byte("x")), api.OK)
	wantSeen(t, d, "f", "abc"+strings.Repeat("\x00", api.MaxFile-4)+"x")
	want(t, "Write of all", d.Write("g", 0, all[1:]), api.OK)
	wantSeen(t, d, "g", string(all[1:]))
	want(t, "Write of all but one", d.Write("h", 1, all[2:]), api.OK)
	wantSeen(t, d, "h", "\x00"+string(all[2:]))
	wantStrokes(t, d, 3)
}

// P9.2: beside MaxFiles files there is room for none, but those that are there may be written; a refusal is a stroke.
func TestWriteFull(t *testing.T) {
	d := fresh(t, many(api.MaxFiles))
	for _, s := range []string{"a", "f03x", "z"} {
		want(t, "Write of "+s, d.Write(s, 0, []byte("x")), api.ErrFull)
	}
	wantStrokes(t, d, 3)
	wantCrash(t, d, []int{1, 1, 1}, many(api.MaxFiles)...)
	for _, f := range many(api.MaxFiles) {
		want(t, "Write of "+f.Name, d.Write(f.Name, 0, []byte("yz")), api.OK)
		wantSeen(t, d, f.Name, "yz")
	}
	want(t, "Delete", d.Delete("f07"), api.OK)
	want(t, "Write of one more", d.Write("g", 0, []byte("x")), api.OK)
	want(t, "Write of two more", d.Write("f07", 0, []byte("x")), api.ErrFull)
	wantStrokes(t, d, 3+api.MaxFiles+3)
	e := fresh(t, many(api.MaxFiles-1))
	want(t, "Write of the last", e.Write("g", 0, []byte("x")), api.OK)
	want(t, "Write behind the last", e.Write("h", 0, []byte("x")), api.ErrFull)
}

// P9.2: Truncate to fewer bytes, as many, and more.
func TestTruncate(t *testing.T) {
	for _, c := range []struct {
		begun string
		n     int
		seen  string
	}{
		{"abcdef", 0, ""}, {"abcdef", 1, "a"}, {"abcdef", 5, "abcde"}, {"abcdef", 6, "abcdef"}, {"abcdef", 7, "abcdef\x00"},
		{"abcdef", 100, "abcdef" + strings.Repeat("\x00", 94)}, {"", 0, ""}, {"", 3, "\x00\x00\x00"},
		{"abcdef", api.MaxFile, "abcdef" + strings.Repeat("\x00", api.MaxFile-6)}, {strings.Repeat("x", api.MaxFile), 2, "xx"},
	} {
		d := fresh(t, []api.File{text("a", "A"), text("f", c.begun)})
		want(t, "Truncate", d.Truncate("f", c.n), api.OK)
		wantSeen(t, d, "f", c.seen)
		wantSeen(t, d, "a", "A")
		wantCrash(t, d, nil, text("a", "A"), text("f", c.begun))
		wantStrokes(t, d, 1)
	}
}

// P9.2: bytes that were cut do not come back, however the file grows again.
func TestTruncateForgets(t *testing.T) {
	d := fresh(t, []api.File{text("f", "abcdef")})
	want(t, "Truncate", d.Truncate("f", 2), api.OK)
	want(t, "Truncate", d.Truncate("f", 4), api.OK)
	wantSeen(t, d, "f", "ab\x00\x00")
	want(t, "Write", d.Write("f", 5, []byte("x")), api.OK)
	wantSeen(t, d, "f", "ab\x00\x00\x00x")
	want(t, "Truncate", d.Truncate("f", 0), api.OK)
	want(t, "Write", d.Write("f", 3, []byte("y")), api.OK)
	wantSeen(t, d, "f", "\x00\x00\x00y")
	want(t, "Sync", d.Sync("f"), api.OK)
	want(t, "Truncate", d.Truncate("f", 1), api.OK)
	want(t, "Sync", d.Sync("f"), api.OK)
	want(t, "Truncate", d.Truncate("f", 4), api.OK)
	want(t, "Sync", d.Sync("f"), api.OK)
	wantCrash(t, d, []int{1, 1}, text("f", "\x00\x00\x00\x00"))
}

// P9.2: Truncate's ErrForm goes ahead of ErrName, and is no stroke; ErrName is one.
func TestTruncateErrors(t *testing.T) {
	d := fresh(t, []api.File{text("f", "abc")})
	for _, n := range []int{-1, math.MinInt, api.MaxFile + 1, math.MaxInt} {
		want(t, fmt.Sprint("Truncate to ", n), d.Truncate("f", n), api.ErrForm)
		want(t, fmt.Sprint("Truncate of none to ", n), d.Truncate("no", n), api.ErrForm)
	}
	wantStrokes(t, d, 0)
	for _, n := range []int{0, 3, api.MaxFile} {
		want(t, fmt.Sprint("Truncate of none to ", n), d.Truncate("no", n), api.ErrName)
	}
	wantStrokes(t, d, 3)
	wantList(t, d, "f")
	wantSeen(t, d, "f", "abc")
}

// P9.2: Sync makes a file's seen bytes safe, not another's; what is changed behind it is unsafe again.
func TestSync(t *testing.T) {
	d := fresh(t, []api.File{text("a", "abc"), text("b", "def")})
	want(t, "Write", d.Write("a", 1, []byte("xyz")), api.OK)
	want(t, "Write", d.Write("b", 1, []byte("xyz")), api.OK)
	want(t, "Sync", d.Sync("a"), api.OK)
	wantSeen(t, d, "a", "axyz")
	wantCrash(t, d, nil, text("a", "axyz"), text("b", "def"))
	wantCrash(t, d, []int{1, 1}, text("a", "axyz"), text("b", "dxyz"))
	want(t, "Write", d.Write("a", 0, []byte("q")), api.OK)
	wantCrash(t, d, nil, text("a", "axyz"), text("b", "def"))
	wantCrash(t, d, []int{1, 0, 0}, text("a", "qxyz"), text("b", "def"))
	want(t, "Truncate", d.Truncate("a", 1), api.OK)
	wantCrash(t, d, nil, text("a", "axyz"), text("b", "def"))
	want(t, "Sync", d.Sync("a"), api.OK)
	wantCrash(t, d, nil, text("a", "q"), text("b", "def"))
	want(t, "Sync", d.Sync("a"), api.OK)
	wantCrash(t, d, nil, text("a", "q"), text("b", "def"))
	want(t, "Sync of none", d.Sync("no"), api.ErrName)
	wantStrokes(t, d, 8)
}

// P9.2: a deleted file is gone at once and for ever: a new one of its name has nothing of it.
func TestDelete(t *testing.T) {
	d := fresh(t, []api.File{text("a", "abc"), text("b", "def"), text("c", "ghi")})
	want(t, "Delete", d.Delete("b"), api.OK)
	wantList(t, d, "a", "c")
	wantCrash(t, d, []int{1, 1, 1}, text("a", "abc"), text("c", "ghi"))
	want(t, "Delete again", d.Delete("b"), api.ErrName)
	want(t, "Truncate", d.Truncate("b", 0), api.ErrName)
	want(t, "Sync", d.Sync("b"), api.ErrName)
	want(t, "Write", d.Write("b", 4, []byte("x")), api.OK)
	wantSeen(t, d, "b", "\x00\x00\x00\x00x")
	wantCrash(t, d, nil, text("a", "abc"), text("b", ""), text("c", "ghi"))
	wantCrash(t, d, []int{1, 0}, text("a", "abc"), text("b", "\x00\x00\x00\x00\x00"), text("c", "ghi"))
	want(t, "Sync", d.Sync("b"), api.OK)
	want(t, "Delete", d.Delete("b"), api.OK)
	want(t, "Delete", d.Delete("a"), api.OK)
	want(t, "Delete", d.Delete("c"), api.OK)
	wantList(t, d)
	wantCrash(t, d, []int{1})
	want(t, "Delete of none", d.Delete("no"), api.ErrName)
	wantStrokes(t, d, 10)
}

// P9.3: Read tells n bytes from at on, or as many as there are; Size all of them.
func TestRead(t *testing.T) {
	d := fresh(t, []api.File{text("e", ""), text("f", "abcdef")})
	for _, c := range []struct {
		name  string
		at, n int
		seen  string
	}{
		{"f", 0, 6, "abcdef"}, {"f", 0, 7, "abcdef"}, {"f", 0, api.MaxFile, "abcdef"}, {"f", 0, 0, ""}, {"f", 0, 1, "a"},
		{"f", 2, 3, "cde"}, {"f", 2, 4, "cdef"}, {"f", 2, 5, "cdef"}, {"f", 5, 1, "f"}, {"f", 5, 0, ""}, {"f", 6, 0, ""}, {"f", 6, 1, ""},
		{"f", 7, 1, ""}, {"f", 100, 100, ""}, {"f", api.MaxFile, 0, ""}, {"f", api.MaxFile, 1, ""}, {"f", api.MaxFile, api.MaxFile, ""},
		{"e", 0, 0, ""}, {"e", 0, 1, ""}, {"e", 1, 1, ""},
	} {
		if b, e := d.Read(c.name, c.at, c.n); e != api.OK || string(b) != c.seen {
			t.Errorf("Read(%s, %d, %d): %q, %d; want %q", c.name, c.at, c.n, b, e, c.seen)
		}
	}
	wantSeen(t, d, "e", "")
	wantStrokes(t, d, 0)
	big := bytes.Repeat([]byte("0123456789abcdef"), api.MaxFile/16)
	d = fresh(t, []api.File{{Name: "f", Data: big}})
	wantSeen(t, d, "f", string(big))
	if b, e := d.Read("f", api.MaxFile-1, 2); e != api.OK || string(b) != "f" {
		t.Errorf("%q, %d", b, e)
	}
}

// P9.3: the errors of Read and Size, ErrForm ahead of ErrName.
func TestReadErrors(t *testing.T) {
	d := fresh(t, []api.File{text("f", "abc")})
	for _, c := range []struct {
		name  string
		at, n int
		e     api.Errno
	}{
		{"f", -1, 1, api.ErrForm}, {"f", 0, -1, api.ErrForm}, {"f", api.MaxFile + 1, 0, api.ErrForm}, {"f", 0, api.MaxFile + 1, api.ErrForm},
		{"f", math.MinInt, 1, api.ErrForm}, {"f", 0, math.MaxInt, api.ErrForm}, {"f", math.MaxInt, math.MaxInt, api.ErrForm}, {"f", 1, math.MinInt, api.ErrForm},
		{"no", -1, 1, api.ErrForm}, {"no", 0, -1, api.ErrForm}, {"", 0, 1, api.ErrForm}, {"F", 0, 1, api.ErrForm}, {"no", 0, 1, api.ErrName}, {"no", api.MaxFile, api.MaxFile, api.ErrName},
	} {
		if b, e := d.Read(c.name, c.at, c.n); e != c.e || len(b) != 0 {
			t.Errorf("Read(%s, %d, %d): %q, %d; want %d", c.name, c.at, c.n, b, e, c.e)
		}
	}
	if n, e := d.Size("no"); n != 0 || e != api.ErrName {
		t.Errorf("%d, %d", n, e)
	}
	if n, e := d.Size("No"); n != 0 || e != api.ErrForm {
		t.Errorf("%d, %d", n, e)
	}
	wantStrokes(t, d, 0)
}

// P9.3: List rises as files come and go.
func TestList(t *testing.T) {
	d := fresh(t, nil)
	wantList(t, d)
	for _, c := range []struct {
		name string
		list []string
	}{
		{"m", []string{"m"}}, {"z", []string{"m", "z"}}, {"a", []string{"a", "m", "z"}}, {"mm", []string{"a", "m", "mm", "z"}},
		{"0", []string{"0", "a", "m", "mm", "z"}}, {".", []string{".", "0", "a", "m", "mm", "z"}}, {"-", []string{"-", ".", "0", "a", "m", "mm", "z"}},
		{"m", []string{"-", ".", "0", "a", "m", "mm", "z"}},
	} {
		want(t, "Write", d.Write(c.name, 0, []byte("x")), api.OK)
		wantList(t, d, c.list...)
	}
	want(t, "Delete", d.Delete("m"), api.OK)
	wantList(t, d, "-", ".", "0", "a", "mm", "z")
	want(t, "Delete", d.Delete("z"), api.OK)
	want(t, "Delete", d.Delete("-"), api.OK)
	wantList(t, d, ".", "0", "a", "mm")
	want(t, "Write", d.Write("m", 0, []byte("x")), api.OK)
	wantList(t, d, ".", "0", "a", "m", "mm")
}

// R2: what New and Write are handed is neither changed nor kept, nor its spare room.
func TestHandedIn(t *testing.T) {
	room := []byte("abcdef--------")
	files := []api.File{{Name: "a", Data: room[:3]}, {Name: "b", Data: room[3:6]}}
	troubles := []api.Trouble{trouble(5, api.TroubleIO), trouble(5, api.TroubleFull)}
	d := fresh(t, files, troubles...)
	other := fresh(t, files, troubles...)
	b := []byte("xyz------")[:3]
	want(t, "Write", d.Write("a", 2, b), api.OK)
	want(t, "Write", d.Write("c", 0, b), api.OK)
	want(t, "Truncate", d.Truncate("b", 9), api.OK)
	want(t, "Sync", d.Sync("b"), api.OK)
	if string(room) != "abcdef--------" || string(b[:9]) != "xyz------" || len(files) != 2 || files[1].Name != "b" {
		t.Errorf("changed: %q, %q, %v", room, b[:9], files)
	}
	for i := range room {
		room[i] = '!'
	}
	for i := range 9 {
		b[:9][i] = '!'
	}
	files[0], files[1], troubles[0], troubles[1] = api.File{}, api.File{}, api.Trouble{}, api.Trouble{}
	wantSeen(t, d, "a", "abxyz")
	wantSeen(t, d, "b", "def\x00\x00\x00\x00\x00\x00")
	wantSeen(t, d, "c", "xyz")
	wantCrash(t, d, nil, text("a", "abc"), text("b", "def\x00\x00\x00\x00\x00\x00"), text("c", ""))
	want(t, "the fifth stroke", d.Sync("a"), api.ErrIO)
	wantCrash(t, other, []int{1, 1}, text("a", "abc"), text("b", "def"))
	wantStrokes(t, other, 0)
}

// scribble writes over all that b has, and over its spare room.
func scribble(b []byte) {
	b = b[:cap(b)]
	for i := range b {
		b[i] = '!'
	}
}

// R2: what was told can be written over, its spare room too, and the disk does not change; nor does it with the disk.
func TestTold(t *testing.T) {
	d := fresh(t, []api.File{text("a", "abcdef"), text("b", strings.Repeat("x", 100))})
	want(t, "Write", d.Write("a", 6, []byte("g")), api.OK)
	all, _ := d.Read("a", 0, 100)
	part, _ := d.Read("a", 2, 2)
	none, _ := d.Read("a", 50, 2)
	list, _ := d.List()
	crash := d.Crash([]int{1, 1})
	again := d.Crash([]int{1, 1})
	scribble(all)
	scribble(none)
	scribble(crash[0].Data)
	scribble(crash[1].Data)
	crash[0].Name = "z"
	list = list[:cap(list)]
	for i := range list {
		list[i] = "z"
	}
	if string(part) != "cd" || !sameFiles(again, []api.File{text("a", "abcdefg"), text("b", strings.Repeat("x", 100))}) {
		t.Errorf("shared: %q, %s", part, showFiles(again))
	}
	wantSeen(t, d, "a", "abcdefg")
	wantList(t, d, "a", "b")
	wantCrash(t, d, nil, text("a", "abcdef"), text("b", strings.Repeat("x", 100)))
	read, _ := d.Read("a", 0, 100)
	list, _ = d.List()
	want(t, "Write", d.Write("a", 0, []byte("zzzzzzzzz")), api.OK)
	want(t, "Delete", d.Delete("b"), api.OK)
	want(t, "Sync", d.Sync("a"), api.OK)
	if string(read) != "abcdefg" || string(part) != "cd" || !slices.Equal(list, []string{"a", "b"}) {
		t.Errorf("changed: %q, %q, %q", read, part, list)
	}
	if !sameFiles(again, []api.File{text("a", "abcdefg"), text("b", strings.Repeat("x", 100))}) {
		t.Errorf("changed: %s", showFiles(again))
	}
}

// R2: safe and seen bytes have no memory in common, whatever was synced, cut and grown.
func TestSafeAndSeenApart(t *testing.T) {
	d := fresh(t, []api.File{text("a", "abcdef")})
	want(t, "Write", d.Write("a", 0, []byte("1")), api.OK)
	wantCrash(t, d, nil, text("a", "abcdef"))
	want(t, "Sync", d.Sync("a"), api.OK)
	want(t, "Write", d.Write("a", 1, []byte("2")), api.OK)
	wantCrash(t, d, nil, text("a", "1bcdef"))
	want(t, "Truncate", d.Truncate("a", 2), api.OK)
	want(t, "Sync", d.Sync("a"), api.OK)
	want(t, "Write", d.Write("a", 1, []byte("345")), api.OK)
	wantCrash(t, d, nil, text("a", "12"))
	want(t, "Sync", d.Sync("a"), api.OK)
	want(t, "Write", d.Write("a", 3, []byte("6")), api.OK)
	wantCrash(t, d, nil, text("a", "1345"))
	wantSeen(t, d, "a", "1346")
}

// R1: a Disk that New did not make is one without files and troubles.
func TestZeroDisk(t *testing.T) {
	var d Disk
	wantList(t, &d)
	wantCrash(t, &d, []int{1})
	want(t, "Sync", d.Sync("a"), api.ErrName)
	want(t, "Write", d.Write("a", 0, []byte("x")), api.OK)
	wantSeen(t, &d, "a", "x")
	wantStrokes(t, &d, 2)
}

package value

import (
	"fmt"
	"math"
	"math/big"
	"math/rand"
	"slices"
	"strings"
	"testing"

	"cadastre/api"
)

func null() api.Value { return api.Value{} }

func integer(n int64) api.Value { return api.Value{Kind: api.KindInt, Int: n} }

func text(s string) api.Value { return api.Value{Kind: api.KindText, Str: s} }

func blob(s string) api.Value { return api.Value{Kind: api.KindBlob, Str: s} }

func show(v api.Value) string {
	return fmt.Sprintf("{%d %d %.20q, of %d}", v.Kind, v.Int, v.Str, len(v.Str))
}

func full(s string) string { return strings.Repeat(s, api.MaxStr) }

// risingInts: the edges of each power of two, and of the whole.
func risingInts() []int64 {
	l := []int64{math.MinInt64, math.MinInt64 + 1, math.MaxInt64 - 1, math.MaxInt64, 0, 5, -5}
	for k := range 63 {
		p := int64(1) << k
		l = append(l, p-1, p, p+1, -p, 1-p, -1-p)
	}
	slices.Sort(l)
	return slices.Compact(l)
}

// risingStrs are written out in their order, so that nothing hangs on how Go compares strings.
func risingStrs() []string {
	last := api.MaxStr - 1
	return []string{
		"",
		"\x00",
		"\x00\x00",
		"\x00\xff",
		"\x01",
		" ",
		"5",
		"50",
		"6",
		"A",
		"B",
		"a",
		"a\x00",
		"a\x00\x00",
		"a\x00b",
		"aa",
		"aab",
		"ab",
		"abc",
		"abd",
		"b",
		full("x")[:last],
		full("x")[:last] + "\x00",
		full("x")[:last] + "w",
		full("x"),
		full("x")[:last] + "y",
		full("x")[:last] + "\xff",
		"y",
		"\x7f",
		"\x80",
		"\xc3\xa4",
		"\xc3\xa4\x00",
		"\xe2\x82\xac",
		"\xf0\x9f\x98\x80",
		"\xfe\xff",
		"\xff",
		"\xff\x00",
		"\xff\xff",
		full("\xff")[:last],
		full("\xff"),
	}
}

// rising: values of every kind, each above the one ahead of it.
func rising() []api.Value {
	l := []api.Value{null()}
	for _, n := range risingInts() {
		l = append(l, integer(n))
	}
	for _, s := range risingStrs() {
		l = append(l, text(s))
	}
	for _, s := range risingStrs() {
		l = append(l, blob(s))
	}
	return l
}

// wrong: no values, by one fault or by several.
func wrong() []api.Value {
	l := []api.Value{
		{Kind: api.KindNull, Int: 1},
		{Kind: api.KindNull, Int: -1},
		{Kind: api.KindNull, Int: math.MinInt64},
		{Kind: api.KindNull, Str: "a"},
		{Kind: api.KindNull, Str: "\x00"},
		{Kind: api.KindNull, Int: 1, Str: "a"},
		{Kind: api.KindInt, Str: "a"},
		{Kind: api.KindInt, Str: "\x00"},
		{Kind: api.KindInt, Int: 5, Str: "5"},
		{Kind: api.KindText, Int: 1},
		{Kind: api.KindText, Int: -1, Str: "a"},
		{Kind: api.KindText, Int: math.MinInt64, Str: "a"},
		{Kind: api.KindBlob, Int: 1},
		{Kind: api.KindBlob, Int: 1 << 32, Str: "a"},
		{Kind: api.KindBlob, Int: math.MaxInt64, Str: "a"},
		text(full("x") + "x"),
		text(full("x") + "\x00"),
		text(full("\xff") + full("\xff")),
		blob(full("x") + "x"),
		blob(full("\x00") + "\x00"),
		blob(full("\xff") + full("\xff")),
		{Kind: api.KindText, Int: 1, Str: full("x") + "x"},
	}
	for _, kind := range []int{math.MinInt, math.MinInt32, -256, -4, -2, -1, 4, 5, 7, 8, 255, 256, 257, 258, 259, 1 << 16, 1<<32 + 1, math.MaxInt32, math.MaxInt} {
		l = append(l, api.Value{Kind: kind}, api.Value{Kind: kind, Int: 5}, api.Value{Kind: kind, Str: "a"})
	}
	return l
}

// byBytes tells how s stands to r as numbers of base 257, none of their digits 0 but behind their ends.
func byBytes(s, r string) int {
	n := max(len(s), len(r))
	return asNumber(s, n).Cmp(asNumber(r, n))
}

func asNumber(s string, digits int) *big.Int {
	n := new(big.Int)
	for i := range digits {
		n.Mul(n, big.NewInt(257))
		if i < len(s) {
			n.Add(n, big.NewInt(int64(s[i])+1))
		}
	}
	return n
}

func wantCmp(t *testing.T, a, b api.Value, want int) {
	t.Helper()
	if c, e := Cmp(a, b); c != want || e != api.OK {
		t.Errorf("Cmp(%s, %s): %d, %v, want %d", show(a), show(b), c, e, want)
	}
}

func wantFits(t *testing.T, v api.Value, k int, want bool) {
	t.Helper()
	if ok, e := Fits(v, k); ok != want || e != api.OK {
		t.Errorf("Fits(%s, %d): %v, %v, want %v", show(v), k, ok, e, want)
	}
}

// P2.1: each value is one.
func TestCheckValues(t *testing.T) {
	for _, v := range rising() {
		if e := Check(v); e != api.OK {
			t.Errorf("Check(%s): %v", show(v), e)
		}
	}
}

// P2.1: all bytes may stand in a text and in a blob, up to MaxStr of them.
func TestCheckBytes(t *testing.T) {
	for x := range 256 {
		one := string([]byte{byte(x)})
		for _, s := range []string{one, full(one)[:api.MaxStr-1], full(one)} {
			if a, b := Check(text(s)), Check(blob(s)); a != api.OK || b != api.OK {
				t.Errorf("Check of %d bytes %d: %v, %v", len(s), x, a, b)
			}
		}
		if s := full(one) + one; Check(text(s)) != api.ErrForm || Check(blob(s)) != api.ErrForm {
			t.Errorf("Check of %d bytes %d is OK", len(s), x)
		}
	}
}

// P2.1: what is no value.
func TestCheckWrong(t *testing.T) {
	for _, v := range wrong() {
		if e := Check(v); e != api.ErrForm {
			t.Errorf("Check(%s): %v, want %v", show(v), e, api.ErrForm)
		}
	}
}

// P2.1: the chapter's example.
func TestCmpExample(t *testing.T) {
	l := []api.Value{null(), integer(5), text("a"), text("aa"), blob("")}
	for i := range l[1:] {
		wantCmp(t, l[i], l[i+1], -1)
		wantCmp(t, l[i+1], l[i], 1)
	}
	wantCmp(t, text(full("\xff")), blob(""), -1)
	wantCmp(t, blob(""), text(full("\xff")), 1)
}

// P2.1, P2.3: each pair of a rising row, both ways round: 0 for the same value alone.
func TestCmpRising(t *testing.T) {
	l := rising()
	for i, a := range l {
		for k, b := range l {
			want := 0
			if i < k {
				want = -1
			}
			if i > k {
				want = 1
			}
			wantCmp(t, a, b, want)
		}
	}
}

// P2.1: the same bytes at another place of memory are the same value.
func TestCmpOfCopies(t *testing.T) {
	for _, v := range rising() {
		w := v
		w.Str = strings.Clone(v.Str)
		wantCmp(t, v, w, 0)
	}
}

// P2.1: bytes of a text and of a blob go by their numbers, the first that differs ahead of all others.
func TestCmpBytes(t *testing.T) {
	r := rand.New(rand.NewSource(3))
	letters := []byte{0x00, 0x01, 'a', 'b', 0x7f, 0x80, 0xfe, 0xff}
	str := func() string {
		b := make([]byte, r.Intn(6))
		for i := range b {
			b[i] = letters[r.Intn(len(letters))]
		}
		return string(b)
	}
	for range 20000 {
		s, u := str(), str()
		want := byBytes(s, u)
		wantCmp(t, text(s), text(u), want)
		wantCmp(t, blob(s), blob(u), want)
		wantCmp(t, text(s), blob(u), -1)
		wantCmp(t, blob(s), text(u), 1)
	}
}

// P2.1: each place of the longest texts counts.
func TestCmpEachPlace(t *testing.T) {
	for i := range api.MaxStr {
		s, u := []byte(full("m")), []byte(full("m"))
		s[i] = 'l'
		wantCmp(t, text(string(s)), text(string(u)), -1)
		wantCmp(t, text(string(u[:i])), text(string(u)), -1)
		wantCmp(t, blob(string(u)), blob(string(s)), 1)
		wantCmp(t, blob(string(u)), blob(string(u[:i])), 1)
	}
}

// P2.1: ErrForm, if one of the two is no value or both are, beside 0 (R4).
func TestCmpWrong(t *testing.T) {
	bad := wrong()
	for i, v := range bad {
		for _, w := range append(rising(), v, bad[(i+1)%len(bad)]) {
			for _, p := range [][2]api.Value{{v, w}, {w, v}} {
				if c, e := Cmp(p[0], p[1]); c != 0 || e != api.ErrForm {
					t.Fatalf("Cmp(%s, %s): %d, %v, want 0, %v", show(p[0]), show(p[1]), c, e, api.ErrForm)
				}
			}
		}
	}
}

// P2.2: null fits each type, each value fits TypeAny, and its kind's type, and no other one.
func TestFits(t *testing.T) {
	types := []int{api.TypeAny, api.TypeInt, api.TypeText, api.TypeBlob}
	fit := [][]bool{
		api.KindNull: {true, true, true, true},
		api.KindInt:  {true, true, false, false},
		api.KindText: {true, false, true, false},
		api.KindBlob: {true, false, false, true},
	}
	for _, v := range rising() {
		for i, k := range types {
			wantFits(t, v, k, fit[v.Kind][i])
		}
	}
}

// P2.2: what is no type, whatever the value.
func TestFitsNoType(t *testing.T) {
	for _, v := range append(rising(), wrong()...) {
		for _, k := range []int{math.MinInt, -256, -4, -2, -1, api.TypeNone, api.TypeBlob + 1, 6, 8, 255, 257, 258, 259, 260, 1<<32 + 1, 1<<32 + 2, math.MaxInt} {
			if ok, e := Fits(v, k); ok || e != api.ErrForm {
				t.Fatalf("Fits(%s, %d): %v, %v, want false, %v", show(v), k, ok, e, api.ErrForm)
			}
		}
	}
}

// P2.2: what is no value, whatever the type.
func TestFitsNoValue(t *testing.T) {
	for _, v := range wrong() {
		for k := api.TypeAny; k <= api.TypeBlob; k++ {
			if ok, e := Fits(v, k); ok || e != api.ErrForm {
				t.Errorf("Fits(%s, %d): %v, %v, want false, %v", show(v), k, ok, e, api.ErrForm)
			}
		}
	}
}

// someValue: of every kind, many of them near to one another.
func someValue(r *rand.Rand, strs []string) api.Value {
	switch r.Intn(8) {
	case 0:
		return null()
	case 1:
		return integer(int64(r.Uint64()))
	case 2:
		return integer(int64(r.Intn(7) - 3))
	case 3, 4:
		return text(strs[r.Intn(len(strs))])
	case 5, 6:
		return blob(strs[r.Intn(len(strs))])
	}
	return text(strs[r.Intn(12)] + strs[r.Intn(12)])
}

func order(t *testing.T, a, b api.Value) int {
	t.Helper()
	c, e := Cmp(a, b)
	if e != api.OK || c < -1 || c > 1 {
		t.Fatalf("Cmp(%s, %s): %d, %v", show(a), show(b), c, e)
	}
	return c
}

// P2.3: 0 for the same value alone; its negative the other way round; and it goes on.
func TestCmpFollows(t *testing.T) {
	r, strs := rand.New(rand.NewSource(4)), risingStrs()
	for range 200000 {
		a, b, c := someValue(r, strs), someValue(r, strs), someValue(r, strs)
		ab, bc, ac := order(t, a, b), order(t, b, c), order(t, a, c)
		if (ab == 0) != (a == b) {
			t.Fatalf("Cmp(%s, %s): %d", show(a), show(b), ab)
		}
		if ba := order(t, b, a); ba != -ab {
			t.Fatalf("Cmp(%s, %s): %d, the other way round %d", show(a), show(b), ab, ba)
		}
		if ab == -1 && bc == -1 && ac != -1 {
			t.Fatalf("%s below %s below %s, but not below it", show(a), show(b), show(c))
		}
	}
}

package cast

import (
	"fmt"
	"math"
	"math/big"
	"math/rand"
	"regexp"
	"slices"
	"strings"
	"testing"

	"cadastre/api"
	"cadastre/arith"
	"cadastre/value"
)

func null() api.Value { return api.Value{} }

func integer(n int64) api.Value { return api.Value{Kind: api.KindInt, Int: n} }

func text(s string) api.Value { return api.Value{Kind: api.KindText, Str: s} }

func blob(s string) api.Value { return api.Value{Kind: api.KindBlob, Str: s} }

func full(s string) string { return strings.Repeat(s, api.MaxStr) }

func noughts(n int) string { return strings.Repeat("0", n) }

func show(v api.Value) string {
	return fmt.Sprintf("{%d %d %.40q, of %d}", v.Kind, v.Int, v.Str, len(v.Str))
}

func types() []int { return []int{api.TypeAny, api.TypeInt, api.TypeText, api.TypeBlob} }

func noTypes() []int {
	l := []int{math.MinInt, math.MinInt32, -256, -2, -1, api.TypeNone, api.TypeBlob + 1, api.TypeBlob + 2, math.MaxInt32, math.MaxInt}
	for _, t := range types() {
		l = append(l, 256+t, t-256, 1<<16+t, 1<<32+t, t-1<<32)
	}
	return l
}

// edgeInts: the edges of each power of two and of ten, and of the whole.
func edgeInts() []int64 {
	l := []int64{math.MinInt64, math.MinInt64 + 1, math.MinInt64 + 2, math.MaxInt64 - 2, math.MaxInt64 - 1, math.MaxInt64, 0, 7, -7, 12, -305}
	for k := range 63 {
		p := int64(1) << k
		l = append(l, p-1, p, p+1, -p, 1-p, -1-p)
	}
	for p, k := int64(1), 0; k < 19; p, k = p*10, k+1 {
		l = append(l, p-1, p, p+1, -p, 1-p, -1-p)
	}
	slices.Sort(l)
	return slices.Compact(l)
}

// strs: what texts and blobs are made of; texts of numbers and what is near to them among it.
func strs() []string {
	return []string{
		"", "0", "1", "-5", "+5", "-007", "12", "-0", "+0", "1x", "x", "a", "null", " 1", "1 ", "-", "+", "1.0", "\x00", "1\x00", "\xff", "\xc3\xa4",
		"9223372036854775807", "9223372036854775808", "-9223372036854775808", "-9223372036854775809", "99999999999999999999x",
		noughts(api.MaxStr-1) + "7", "-" + noughts(api.MaxStr-2) + "7", full("0"), full("9"), full("1")[1:] + "x", full("\xfe"),
	}
}

// someOfAll: values of every kind.
func someOfAll() []api.Value {
	l := []api.Value{null()}
	for _, n := range []int64{math.MinInt64, -12, -1, 0, 1, 7, math.MaxInt64} {
		l = append(l, integer(n))
	}
	for _, s := range strs() {
		l = append(l, text(s), blob(s))
	}
	return l
}

// wrong: no values, by one fault or by several.
func wrong() []api.Value {
	return []api.Value{
		{Kind: api.KindNull, Int: 1},
		{Kind: api.KindNull, Int: math.MinInt64},
		{Kind: api.KindNull, Str: "1"},
		{Kind: api.KindInt, Str: "1"},
		{Kind: api.KindInt, Int: 1, Str: "1"},
		{Kind: api.KindText, Int: 1},
		{Kind: api.KindText, Int: 5, Str: "5"},
		{Kind: api.KindText, Int: -1, Str: "x"},
		{Kind: api.KindBlob, Int: 1},
		{Kind: api.KindBlob, Int: math.MaxInt64, Str: "a"},
		text(full("1") + "1"),
		text(full("0") + "0"),
		text(full("x") + "x"),
		blob(full("x") + "x"),
		{Kind: -1},
		{Kind: -1, Int: 1},
		{Kind: api.KindBlob + 1},
		{Kind: api.KindBlob + 1, Str: "1"},
		{Kind: 256},
		{Kind: 257, Int: 1},
		{Kind: math.MinInt},
		{Kind: math.MaxInt},
	}
}

var numbersText = regexp.MustCompile(`\A[-+]?[0-9]+\z`)

// read is Int as the chapter says it, by numbers that have no bound.
func read(s string) (int64, api.Errno) {
	if !numbersText.MatchString(s) {
		return 0, api.ErrType
	}
	n, ok := new(big.Int).SetString(s, 10)
	if !ok {
		panic("no number: " + s)
	}
	if !n.IsInt64() {
		return 0, api.ErrOver
	}
	return n.Int64(), api.OK
}

// wantInt writes nothing down ahead of a fault: it is called very often. Beside an error stands 0 (R4).
func wantInt(t *testing.T, s string, w int64, f api.Errno) {
	t.Helper()
	if n, e := Int(s); n != w || e != f {
		t.Errorf("Int(%.60q, of %d bytes): %d, %v, want %d, %v", s, len(s), n, e, w, f)
	}
}

func wantRead(t *testing.T, s string) {
	t.Helper()
	w, f := read(s)
	wantInt(t, s, w, f)
}

func wantStore(t *testing.T, v api.Value, of int, w api.Value) {
	t.Helper()
	if got, e := Store(v, of); got != w || e != api.OK {
		t.Errorf("Store(%s, %d): %s, %v, want %s", show(v), of, show(got), e, show(w))
	}
}

// wantStoreErr: beside an error stands the zero value (R4).
func wantStoreErr(t *testing.T, v api.Value, of int, w api.Errno) {
	t.Helper()
	if got, e := Store(v, of); got != null() || e != w {
		t.Errorf("Store(%s, %d): %s, %v, want null, %v", show(v), of, show(got), e, w)
	}
}

// P5.1 and P5.2: the chapter's examples.
func TestExamples(t *testing.T) {
	wantStore(t, text("-007"), api.TypeInt, integer(-7))
	wantStoreErr(t, text("1x"), api.TypeInt, api.ErrType)
	wantStoreErr(t, text("9223372036854775808"), api.TypeInt, api.ErrOver)
	wantStore(t, integer(12), api.TypeText, text("12"))
	wantInt(t, "-007", -7, api.OK)
	wantInt(t, "1x", 0, api.ErrType)
	wantInt(t, "9223372036854775808", 0, api.ErrOver)
}

// P5.1: what is written out here hangs on no other reading.
func TestIntByHand(t *testing.T) {
	for _, c := range []struct {
		s string
		n int64
	}{
		{"0", 0}, {"-0", 0}, {"+0", 0}, {"000", 0}, {"-000", 0}, {"+000", 0},
		{"1", 1}, {"-1", -1}, {"+1", 1}, {"9", 9}, {"-9", -9}, {"10", 10}, {"01", 1}, {"+010", 10}, {"-010", -10},
		{"1234567890", 1234567890}, {"-1234567890", -1234567890}, {"+1234567890", 1234567890}, {"100000000000000000", 100000000000000000},
		{"9223372036854775807", math.MaxInt64}, {"+9223372036854775807", math.MaxInt64}, {"-9223372036854775807", math.MinInt64 + 1},
		{"9223372036854775799", math.MaxInt64 - 8}, {"9223372036854775800", math.MaxInt64 - 7}, {"-9223372036854775808", math.MinInt64}, {"-9223372036854775800", math.MinInt64 + 8},
	} {
		wantInt(t, c.s, c.n, api.OK)
	}
}

// P5.1: just beyond the least and the greatest int64, and far beyond them.
func TestIntOverByHand(t *testing.T) {
	for _, s := range []string{
		"9223372036854775808", "9223372036854775809", "9223372036854775810", "9223372036854775899", "9223372036854776000", "9300000000000000000", "9999999999999999999",
		"10000000000000000000", "18446744073709551615", "18446744073709551616", "18446744073709551617", "92233720368547758070", "99999999999999999999999",
		"340282366920938463463374607431768211456",
	} {
		wantInt(t, s, 0, api.ErrOver)
		wantInt(t, "+"+s, 0, api.ErrOver)
		wantInt(t, "00"+s, 0, api.ErrOver)
	}
	for _, s := range []string{"-9223372036854775809", "-9223372036854775810", "-9223372036854775818", "-18446744073709551616", "-18446744073709551617", "-92233720368547758080", "-09223372036854775809"} {
		wantInt(t, s, 0, api.ErrOver)
	}
}

// P5.1: each edge, with and without a sign, with noughts ahead, few and very many.
func TestIntEdges(t *testing.T) {
	for _, zeros := range []int{0, 1, 2, 17, 18, 19, 20, 21, 64, api.MaxStr, 3 * api.MaxStr} {
		for _, n := range edgeInts() {
			digits := noughts(zeros) + new(big.Int).Abs(big.NewInt(n)).String()
			wantRead(t, digits)
			wantRead(t, "+"+digits)
			wantRead(t, "-"+digits)
		}
	}
}

// P5.1: numbers on both sides of the bounds, with digits more behind them.
func TestIntNearBounds(t *testing.T) {
	for _, bound := range []int64{math.MinInt64, math.MaxInt64} {
		for step := int64(-300); step <= 300; step++ {
			n := new(big.Int).Add(big.NewInt(bound), big.NewInt(step))
			for _, more := range []string{"", "0", "7", "9", "00", noughts(30), noughts(api.MaxStr), full("9")} {
				wantRead(t, n.String()+more)
			}
		}
	}
}

// P5.1: texts of up to 22 digits, many of which are near to what is too much.
func TestIntRandom(t *testing.T) {
	r, seen := rand.New(rand.NewSource(51)), map[api.Errno]int{}
	for range 100000 {
		s := []string{"", "-", "+", "0", "-0", "+00"}[r.Intn(6)]
		s += "9223372036854775807"[:r.Intn(20)]
		for range r.Intn(4) {
			s += string("0123456789"[r.Intn(10)])
		}
		wantRead(t, s)
		_, e := read(s)
		seen[e]++
	}
	for _, e := range []api.Errno{api.OK, api.ErrType, api.ErrOver} {
		if seen[e] < 100 {
			t.Errorf("only %d were %v", seen[e], e)
		}
	}
}

// P5.1: what is no number's text.
func TestIntNoNumber(t *testing.T) {
	for _, s := range []string{
		"", "-", "+", "--", "++", "+-", "-+", "--1", "++1", "+-1", "-+1", "1-", "1+", "1-2", "1+2", "-1-", "0-0",
		" ", " 1", "1 ", "1 2", "- 1", "-1 ", " -1", "+ 1", "\t1", "1\n", "\n", "1\r\n", "\v1", "1\f", "\u00a01",
		"x", "a1", "1a", "1a2", "x1", "-x", "-1x", "0x1", "0x10", "0b1", "0o7", "1e3", "1E3", "1_000", "1,000", "1.0", "1.", ".1", "-.1", "Inf", "-Inf", "NaN", "null",
		"\x00", "\x001", "1\x00", "1\x002", "\xff", "1\xff", "\xb1", "1\xb1", "/", ":", "1/", "1:", "/1", ":1",
		"\u0661", "\uff11", "\u22121", "\u00b2", "\u09e7",
	} {
		wantInt(t, s, 0, api.ErrType)
	}
}

// P5.1: each byte ahead of a number, behind its sign, between, behind and alone, with numbers that are too much, too.
func TestIntEveryByte(t *testing.T) {
	for b := range 256 {
		c := string([]byte{byte(b)})
		wantRead(t, c)
		for _, s := range []string{"1", "12", "-7", "+42", "-9223372036854775808", "9223372036854775807", "9223372036854775808", "-99999999999999999999999", noughts(40) + "3"} {
			for i := range len(s) + 1 {
				wantRead(t, s[:i]+c+s[i:])
			}
			for i := range s {
				wantRead(t, s[:i]+c+s[i+1:])
			}
		}
	}
}

// P5.1: every text of up to six of a few bytes.
func TestIntEveryShortText(t *testing.T) {
	l := []string{""}
	for range 6 {
		next := []string{}
		for _, s := range l {
			for _, c := range "019-+ x" {
				next = append(next, s+string(c))
			}
		}
		for _, s := range next {
			wantRead(t, s)
		}
		l = next
	}
}

// P5.1: what is no number's text goes ahead of what is too much, wherever it is.
func TestIntTypeAheadOfOver(t *testing.T) {
	for _, s := range []string{"9223372036854775808", "-9223372036854775809", "99999999999999999999999", "-" + full("9"), full("9") + full("9")} {
		wantInt(t, s, 0, api.ErrOver)
		for _, c := range []string{"x", " ", "-", "+", ".", "\x00", "\xff", "/", ":"} {
			wantInt(t, s+c, 0, api.ErrType)
			wantInt(t, s+c+"1", 0, api.ErrType)
			wantInt(t, s[:5]+c+s[5:], 0, api.ErrType)
		}
	}
}

// P5.1: Int asks for no more of a text than its digits: it may be longer than a value's.
func TestIntLong(t *testing.T) {
	long := 1 << 20
	wantInt(t, noughts(long), 0, api.OK)
	wantInt(t, "-"+noughts(long)+"5", -5, api.OK)
	wantInt(t, noughts(long)+"9223372036854775808", 0, api.ErrOver)
	wantInt(t, "1"+noughts(long), 0, api.ErrOver)
	wantInt(t, "1"+noughts(long)+"x", 0, api.ErrType)
}

// P5.2: null stays null, whatever the type.
func TestStoreNull(t *testing.T) {
	for _, of := range types() {
		wantStore(t, null(), of, null())
	}
}

// P5.2: TypeAny takes all as they are, texts of numbers, too.
func TestStoreAny(t *testing.T) {
	for _, v := range someOfAll() {
		wantStore(t, v, api.TypeAny, v)
	}
	for _, n := range edgeInts() {
		wantStore(t, integer(n), api.TypeAny, integer(n))
	}
}

// P5.2: TypeInt takes integers, texts of numbers, no blob.
func TestStoreInt(t *testing.T) {
	for _, n := range edgeInts() {
		wantStore(t, integer(n), api.TypeInt, integer(n))
		wantStore(t, text(big.NewInt(n).String()), api.TypeInt, integer(n))
		wantStoreErr(t, blob(big.NewInt(n).String()), api.TypeInt, api.ErrType)
	}
	for _, s := range strs() {
		if n, e := read(s); e == api.OK {
			wantStore(t, text(s), api.TypeInt, integer(n))
		} else {
			wantStoreErr(t, text(s), api.TypeInt, e)
		}
		wantStoreErr(t, blob(s), api.TypeInt, api.ErrType)
	}
}

// P5.2: texts by TypeInt, written out.
func TestStoreIntByHand(t *testing.T) {
	wantStore(t, text("-0"), api.TypeInt, integer(0))
	wantStore(t, text("+5"), api.TypeInt, integer(5))
	wantStore(t, text("-9223372036854775808"), api.TypeInt, integer(math.MinInt64))
	wantStore(t, text(noughts(api.MaxStr-1)+"7"), api.TypeInt, integer(7))
	wantStoreErr(t, text(""), api.TypeInt, api.ErrType)
	wantStoreErr(t, text("-"), api.TypeInt, api.ErrType)
	wantStoreErr(t, text("-9223372036854775809"), api.TypeInt, api.ErrOver)
	wantStoreErr(t, text("99999999999999999999x"), api.TypeInt, api.ErrType)
	wantStoreErr(t, text(full("9")), api.TypeInt, api.ErrOver)
	wantStoreErr(t, blob(""), api.TypeInt, api.ErrType)
}

// P5.2: TypeText takes texts as they are, integers as their texts, no blob.
func TestStoreText(t *testing.T) {
	for _, n := range edgeInts() {
		wantStore(t, integer(n), api.TypeText, text(big.NewInt(n).String()))
	}
	wantStore(t, integer(math.MinInt64), api.TypeText, text("-9223372036854775808"))
	wantStore(t, integer(0), api.TypeText, text("0"))
	for _, s := range strs() {
		wantStore(t, text(s), api.TypeText, text(s))
		wantStoreErr(t, blob(s), api.TypeText, api.ErrType)
	}
}

// P5.2: TypeBlob takes blobs as they are, texts as their bytes, no integer.
func TestStoreBlob(t *testing.T) {
	for _, s := range strs() {
		wantStore(t, blob(s), api.TypeBlob, blob(s))
		wantStore(t, text(s), api.TypeBlob, blob(s))
	}
	for _, n := range edgeInts() {
		wantStoreErr(t, integer(n), api.TypeBlob, api.ErrType)
	}
}

// P5.2: what is no type goes ahead of null, of the wrong type, of overflow.
func TestStoreNoType(t *testing.T) {
	for _, of := range noTypes() {
		for _, v := range append(someOfAll(), wrong()...) {
			wantStoreErr(t, v, of, api.ErrForm)
		}
	}
}

// P5.2: what is no value goes ahead of TypeAny, of the wrong type, of overflow.
func TestStoreWrong(t *testing.T) {
	for _, of := range types() {
		for _, v := range wrong() {
			wantStoreErr(t, v, of, api.ErrForm)
		}
	}
}

// P5.3: what Store tells is a value, fits its type, and stays, stored again.
func TestStoreFitsAndStays(t *testing.T) {
	l := someOfAll()
	for _, n := range edgeInts() {
		s := big.NewInt(n).String()
		l = append(l, integer(n), text(s), text("00"+s), blob(s))
	}
	seen := 0
	for _, of := range types() {
		for _, v := range l {
			w, e := Store(v, of)
			if e != api.OK {
				continue
			}
			seen++
			if ok, e := value.Fits(w, of); !ok || e != api.OK {
				t.Errorf("Store(%s, %d): %s does not fit: %v", show(v), of, show(w), e)
			}
			wantStore(t, w, of, w)
		}
	}
	if seen < 2*len(l) {
		t.Errorf("only %d were told", seen)
	}
}

// P5.3: what fits a type already stays as it is.
func TestStoreOfWhatFits(t *testing.T) {
	for _, of := range types() {
		for _, v := range someOfAll() {
			if ok, _ := value.Fits(v, of); ok {
				wantStore(t, v, of, v)
			}
		}
	}
}

// P5.3: Int of an integer's text is the integer, and so it comes back from a column of texts.
func TestIntOfText(t *testing.T) {
	l, r := edgeInts(), rand.New(rand.NewSource(53))
	for range 20000 {
		l = append(l, int64(r.Uint64())>>r.Intn(64))
	}
	for _, n := range l {
		s, e := arith.Text(integer(n))
		if e != api.OK {
			t.Fatalf("arith.Text(%d): %v", n, e)
		}
		wantInt(t, s.Str, n, api.OK)
		if s, e = Store(integer(n), api.TypeText); e != api.OK {
			t.Fatalf("Store(%d, TypeText): %v", n, e)
		}
		wantStore(t, s, api.TypeInt, integer(n))
	}
}

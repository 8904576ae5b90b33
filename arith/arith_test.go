package arith

import (
	"fmt"
	"math"
	"math/big"
	"math/rand"
	"slices"
	"strings"
	"testing"

	"cadastre/api"
)

func null() api.Value { return api.Value{} }

func blob(s string) api.Value { return api.Value{Kind: api.KindBlob, Str: s} }

func full(s string) string { return strings.Repeat(s, api.MaxStr) }

func show(v api.Value) string {
	return fmt.Sprintf("{%d %d %.20q, of %d}", v.Kind, v.Int, v.Str, len(v.Str))
}

func ops() []int { return []int{api.OpMul, api.OpDiv, api.OpMod, api.OpAdd, api.OpSub} }

// edgeInts: the edges of each power of two and of ten, of the whole, of its halves and roots.
func edgeInts() []int64 {
	l := []int64{math.MinInt64, math.MinInt64 + 1, math.MinInt64 + 2, math.MaxInt64 - 2, math.MaxInt64 - 1, math.MaxInt64, 0}
	for _, n := range []int64{3, 5, 6, 7, 12, 49, 337, 92737, 649657, 3037000499, 3037000500, 1 << 62 / 3, math.MaxInt64 / 7, math.MaxInt64 / 10} {
		l = append(l, n-1, n, n+1, -n, 1-n, -1-n)
	}
	for k := range 63 {
		p := int64(1) << k
		l = append(l, p-1, p, p+1, -p, 1-p, -1-p)
	}
	for p, k := int64(1), 0; k < 19; p, k = p*10, k+1 {
		l = append(l, p-1, p, -p, 1-p)
	}
	slices.Sort(l)
	return slices.Compact(l)
}

// notInts: texts and blobs, those of numbers among them.
func notInts() []api.Value {
	l := []api.Value{}
	for _, s := range []string{"", "0", "1", "-5", "a", "null", "\x00", "\xff", full("1")} {
		l = append(l, text(s), blob(s))
	}
	return l
}

// someOfAll: values of every kind.
func someOfAll() []api.Value {
	l := append([]api.Value{null()}, notInts()...)
	for _, n := range []int64{math.MinInt64, -12, -1, 0, 1, 7, math.MaxInt64} {
		l = append(l, integer(n))
	}
	return l
}

// wrong: no values, by one fault or by several.
func wrong() []api.Value {
	return []api.Value{
		{Kind: api.KindNull, Int: 1},
		{Kind: api.KindNull, Int: math.MinInt64},
		{Kind: api.KindNull, Str: "a"},
		{Kind: api.KindInt, Str: "a"},
		{Kind: api.KindInt, Int: 1, Str: "1"},
		{Kind: api.KindText, Int: 1},
		{Kind: api.KindText, Int: -1, Str: "a"},
		{Kind: api.KindBlob, Int: 1},
		{Kind: api.KindBlob, Int: math.MaxInt64, Str: "a"},
		text(full("x") + "x"),
		blob(full("x") + "x"),
		{Kind: -1},
		{Kind: -1, Int: 1},
		{Kind: api.KindBlob + 1},
		{Kind: api.KindBlob + 1, Str: "a"},
		{Kind: 256},
		{Kind: 257, Int: 1},
		{Kind: math.MinInt},
		{Kind: math.MaxInt},
	}
}

// noOps: what api names and more, without those of Do.
func noOps() []int {
	l := []int{math.MinInt, math.MinInt32, -256, -1, 256, 256 + api.OpMul, 256 + api.OpSub, 1<<32 + api.OpMul, 1<<32 + api.OpSub, api.OpAdd - 1<<32, math.MaxInt32, math.MaxInt}
	for op := api.OpNone; op <= api.OpMax+1; op++ {
		if !slices.Contains(ops(), op) {
			l = append(l, op)
		}
	}
	return l
}

func want(t *testing.T, what string, v api.Value, e api.Errno, w api.Value) {
	t.Helper()
	if v != w || e != api.OK {
		t.Errorf("%s: %s, %v, want %s", what, show(v), e, show(w))
	}
}

// wantErr: beside an error stands the zero value (R4).
func wantErr(t *testing.T, what string, v api.Value, e, w api.Errno) {
	t.Helper()
	if v != null() || e != w {
		t.Errorf("%s: %s, %v, want null, %v", what, show(v), e, w)
	}
}

func doOf(op int, a, b api.Value) string {
	return fmt.Sprintf("Do(%d, %s, %s)", op, show(a), show(b))
}

// wantDo writes nothing down ahead of a fault: it is called millions of times.
func wantDo(t *testing.T, op int, a, b, w api.Value) {
	t.Helper()
	if v, e := Do(op, a, b); v != w || e != api.OK {
		t.Errorf("%s: %s, %v, want %s", doOf(op, a, b), show(v), e, show(w))
	}
}

func wantDoErr(t *testing.T, op int, a, b api.Value, w api.Errno) {
	t.Helper()
	if v, e := Do(op, a, b); v != null() || e != w {
		t.Errorf("%s: %s, %v, want null, %v", doOf(op, a, b), show(v), e, w)
	}
}

// exact reckons with numbers that have no bound.
func exact(op int, a, b int64) *big.Int {
	x, y, n := big.NewInt(a), big.NewInt(b), new(big.Int)
	switch op {
	case api.OpMul:
		return n.Mul(x, y)
	case api.OpDiv:
		return n.Quo(x, y)
	case api.OpMod:
		return n.Rem(x, y)
	case api.OpAdd:
		return n.Add(x, y)
	}
	return n.Sub(x, y)
}

// wantExact: what Do must tell of two integers.
func wantExact(t *testing.T, op int, a, b int64) {
	t.Helper()
	if b == 0 && (op == api.OpDiv || op == api.OpMod) {
		wantDo(t, op, integer(a), integer(b), null())
		return
	}
	n := exact(op, a, b)
	if !n.IsInt64() {
		wantDoErr(t, op, integer(a), integer(b), api.ErrOver)
		return
	}
	wantDo(t, op, integer(a), integer(b), integer(n.Int64()))
}

// P4.1: the chapter's examples.
func TestDoExamples(t *testing.T) {
	wantDo(t, api.OpMod, integer(7), integer(-2), integer(1))
	wantDo(t, api.OpDiv, integer(-7), integer(2), integer(-3))
	wantDo(t, api.OpDiv, integer(5), integer(0), null())
}

// P4.1: what is written out here hangs on no other reckoning.
func TestDoByHand(t *testing.T) {
	const low, high = math.MinInt64, math.MaxInt64
	for _, c := range []struct {
		op      int
		a, b, w int64
	}{
		{api.OpMul, 6, -7, -42}, {api.OpMul, -6, -7, 42}, {api.OpMul, 0, low, 0}, {api.OpMul, low, 0, 0}, {api.OpMul, low, 1, low}, {api.OpMul, -1, high, low + 1},
		{api.OpMul, 1 << 31, -1 << 32, low}, {api.OpMul, 7, high / 7, high}, {api.OpMul, -3037000499, -3037000499, 9223372030926249001},
		{api.OpDiv, 7, 2, 3}, {api.OpDiv, -7, 2, -3}, {api.OpDiv, 7, -2, -3}, {api.OpDiv, -7, -2, 3}, {api.OpDiv, 1, 2, 0}, {api.OpDiv, -1, 2, 0}, {api.OpDiv, low, 1, low}, {api.OpDiv, low + 1, -1, high}, {api.OpDiv, high, -1, low + 1}, {api.OpDiv, high, low, 0}, {api.OpDiv, low, high, -1}, {api.OpDiv, low, low, 1},
		{api.OpMod, 7, 2, 1}, {api.OpMod, -7, 2, -1}, {api.OpMod, 7, -2, 1}, {api.OpMod, -7, -2, -1}, {api.OpMod, 6, -2, 0}, {api.OpMod, low, -1, 0}, {api.OpMod, low, 1, 0}, {api.OpMod, low, high, -1}, {api.OpMod, high, low, high}, {api.OpMod, low, low, 0}, {api.OpMod, low, 10, -8},
		{api.OpAdd, 2, 3, 5}, {api.OpAdd, low, high, -1}, {api.OpAdd, high - 1, 1, high}, {api.OpAdd, low + 1, -1, low}, {api.OpAdd, high, 0, high}, {api.OpAdd, low, 0, low},
		{api.OpSub, 2, 3, -1}, {api.OpSub, -1, low, high}, {api.OpSub, low, low, 0}, {api.OpSub, high - 1, -1, high}, {api.OpSub, low + 1, 1, low}, {api.OpSub, -1, high, low}, {api.OpSub, 0, high, low + 1},
	} {
		wantDo(t, c.op, integer(c.a), integer(c.b), integer(c.w))
	}
}

// P4.1: just beyond the least and the greatest int64.
func TestDoOver(t *testing.T) {
	const low, high = math.MinInt64, math.MaxInt64
	for _, c := range []struct {
		op   int
		a, b int64
	}{
		{api.OpMul, low, -1}, {api.OpMul, -1, low}, {api.OpMul, 1 << 31, 1 << 32}, {api.OpMul, -1 << 31, -1 << 32}, {api.OpMul, 3037000500, 3037000500}, {api.OpMul, low, low}, {api.OpMul, high, high}, {api.OpMul, low, high}, {api.OpMul, high, 2}, {api.OpMul, 2, low}, {api.OpMul, -2, 1<<62 + 1}, {api.OpMul, 7, high/7 + 1},
		{api.OpDiv, low, -1},
		{api.OpAdd, high, 1}, {api.OpAdd, 1, high}, {api.OpAdd, low, -1}, {api.OpAdd, -1, low}, {api.OpAdd, high, high}, {api.OpAdd, low, low}, {api.OpAdd, 1 << 62, 1 << 62},
		{api.OpSub, low, 1}, {api.OpSub, high, -1}, {api.OpSub, 0, low}, {api.OpSub, -2, high}, {api.OpSub, high, low}, {api.OpSub, low, high},
	} {
		wantDoErr(t, c.op, integer(c.a), integer(c.b), api.ErrOver)
	}
}

// P4.1: each pair of edges, for every operation.
func TestDoEdges(t *testing.T) {
	l := edgeInts()
	for _, a := range l {
		for _, b := range l {
			for _, op := range ops() {
				wantExact(t, op, a, b)
			}
		}
	}
}

// P4.1: sums, differences and products within a few steps of the bounds.
func TestDoNearBounds(t *testing.T) {
	r := rand.New(rand.NewSource(4))
	for range 50000 {
		b := int64(r.Uint64()) >> r.Intn(63)
		for _, bound := range []int64{math.MinInt64, math.MaxInt64} {
			for step := int64(-2); step <= 2; step++ {
				wantExact(t, api.OpAdd, bound-b+step, b)
				wantExact(t, api.OpSub, bound+b+step, b)
				if b != 0 {
					wantExact(t, api.OpMul, bound/b+step, b)
					wantExact(t, api.OpMul, b, bound/b+step)
				}
			}
		}
	}
}

// P4.1: a divisor of 0 tells null, whatever is divided.
func TestDoByZero(t *testing.T) {
	for _, a := range edgeInts() {
		wantDo(t, api.OpDiv, integer(a), integer(0), null())
		wantDo(t, api.OpMod, integer(a), integer(0), null())
	}
}

// P4.1: null on either side or on both tells null, also beside a text, a blob or a divisor of 0.
func TestDoNull(t *testing.T) {
	for _, op := range ops() {
		for _, v := range someOfAll() {
			wantDo(t, op, null(), v, null())
			wantDo(t, op, v, null(), null())
		}
	}
}

// P4.1: a text or a blob on either side or on both is of the wrong type, ahead of a divisor of 0.
func TestDoNotInts(t *testing.T) {
	for _, op := range ops() {
		for _, a := range notInts() {
			for _, b := range someOfAll() {
				if b != null() {
					wantDoErr(t, op, a, b, api.ErrType)
					wantDoErr(t, op, b, a, api.ErrType)
				}
			}
		}
	}
}

// P4.1: what is no value goes ahead of null, of the wrong type, of a divisor of 0.
func TestDoWrong(t *testing.T) {
	for _, op := range ops() {
		for _, a := range wrong() {
			for _, b := range append(someOfAll(), wrong()...) {
				wantDoErr(t, op, a, b, api.ErrForm)
				wantDoErr(t, op, b, a, api.ErrForm)
			}
		}
	}
}

// P4.1: what is no operation of Do goes ahead of null, of the wrong type, of overflow.
func TestDoNoOp(t *testing.T) {
	l := append(someOfAll(), wrong()...)
	for _, op := range noOps() {
		for _, a := range l {
			for _, b := range l {
				wantDoErr(t, op, a, b, api.ErrForm)
			}
		}
	}
}

// P4.2: null of null, the negative of each integer but the least.
func TestNeg(t *testing.T) {
	v, e := Neg(null())
	want(t, "Neg(null)", v, e, null())
	for _, n := range edgeInts() {
		v, e := Neg(integer(n))
		if n == math.MinInt64 {
			wantErr(t, "Neg of the least", v, e, api.ErrOver)
			continue
		}
		want(t, fmt.Sprintf("Neg(%d)", n), v, e, integer(new(big.Int).Neg(big.NewInt(n)).Int64()))
	}
}

// P4.2: twice the negative is the number again.
func TestNegTwice(t *testing.T) {
	for _, n := range edgeInts()[1:] {
		once, e := Neg(integer(n))
		if e != api.OK || n != 0 && once == integer(n) {
			t.Errorf("Neg(%d): %s, %v", n, show(once), e)
		}
		twice, e := Neg(once)
		want(t, "Neg("+show(once)+")", twice, e, integer(n))
	}
}

// P4.2: texts and blobs are of the wrong type; what is no value is malformed.
func TestNegWrong(t *testing.T) {
	for _, v := range notInts() {
		n, e := Neg(v)
		wantErr(t, "Neg("+show(v)+")", n, e, api.ErrType)
	}
	for _, v := range wrong() {
		n, e := Neg(v)
		wantErr(t, "Neg("+show(v)+")", n, e, api.ErrForm)
	}
}

// P4.3: decimal texts, written out.
func TestTextByHand(t *testing.T) {
	for _, c := range []struct {
		n int64
		s string
	}{
		{0, "0"}, {1, "1"}, {-1, "-1"}, {9, "9"}, {10, "10"}, {-10, "-10"}, {-12, "-12"}, {1000000, "1000000"}, {-305, "-305"},
		{math.MaxInt64, "9223372036854775807"}, {math.MinInt64 + 1, "-9223372036854775807"}, {math.MinInt64, "-9223372036854775808"},
	} {
		v, e := Text(integer(c.n))
		want(t, fmt.Sprintf("Text(%d)", c.n), v, e, text(c.s))
		v, e = Length(integer(c.n))
		want(t, fmt.Sprintf("Length(%d)", c.n), v, e, integer(int64(len(c.s))))
	}
}

// P4.3: each integer's text, and its length.
func TestTextOfInts(t *testing.T) {
	for _, n := range edgeInts() {
		s := big.NewInt(n).String()
		v, e := Text(integer(n))
		want(t, fmt.Sprintf("Text(%d)", n), v, e, text(s))
		v, e = Length(integer(n))
		want(t, fmt.Sprintf("Length(%d)", n), v, e, integer(int64(len(s))))
	}
}

// P4.3: null, texts and blobs are themselves.
func TestTextOfOthers(t *testing.T) {
	for _, v := range append(notInts(), null()) {
		s, e := Text(v)
		want(t, "Text("+show(v)+")", s, e, v)
	}
}

func wantConcat(t *testing.T, a, b, w api.Value) {
	t.Helper()
	v, e := Concat(a, b)
	want(t, "Concat("+show(a)+", "+show(b)+")", v, e, w)
}

func wantConcatErr(t *testing.T, a, b api.Value, w api.Errno) {
	t.Helper()
	v, e := Concat(a, b)
	wantErr(t, "Concat("+show(a)+", "+show(b)+")", v, e, w)
}

// P4.3: texts and integers' texts, one behind the other.
func TestConcat(t *testing.T) {
	wantConcat(t, integer(1), text("a"), text("1a"))
	wantConcat(t, text("a"), integer(1), text("a1"))
	wantConcat(t, integer(1), integer(1), text("11"))
	wantConcat(t, integer(0), integer(-5), text("0-5"))
	wantConcat(t, integer(math.MinInt64), text(""), text("-9223372036854775808"))
	wantConcat(t, text("ab"), text("cd"), text("abcd"))
	wantConcat(t, text(""), text(""), text(""))
	wantConcat(t, text(""), text("x"), text("x"))
	wantConcat(t, text("x"), text(""), text("x"))
	wantConcat(t, text("a\x00"), text("\xffb"), text("a\x00\xffb"))
	wantConcat(t, text("\xc3"), text("\xa4"), text("\xc3\xa4"))
}

// P4.3: null on either side or on both, also beside a blob or a text that is full.
func TestConcatNull(t *testing.T) {
	for _, v := range someOfAll() {
		wantConcat(t, null(), v, null())
		wantConcat(t, v, null(), null())
	}
}

// P4.3: a blob on either side or on both, ahead of the limit.
func TestConcatBlob(t *testing.T) {
	for _, b := range []api.Value{blob(""), blob("a"), blob("\x00"), blob(full("x"))} {
		for _, v := range someOfAll() {
			if v != null() {
				wantConcatErr(t, b, v, api.ErrType)
				wantConcatErr(t, v, b, api.ErrType)
			}
		}
	}
}

// P4.3: MaxStr bytes together, and one more, wherever the seam is.
func TestConcatLimit(t *testing.T) {
	for _, k := range []int{0, 1, 2, 19, 20, 1000, api.MaxStr / 2, api.MaxStr - 20, api.MaxStr - 1, api.MaxStr} {
		first, second := full("x")[:k], full("y")[k:]
		wantConcat(t, text(first), text(second), text(first+second))
		if k < api.MaxStr {
			wantConcatErr(t, text(first+"x"), text(second), api.ErrLimit)
		}
		if k > 0 {
			wantConcatErr(t, text(first), text(second+"y"), api.ErrLimit)
		}
	}
	wantConcatErr(t, text(full("x")), text(full("y")), api.ErrLimit)
}

// P4.3: of an integer its text counts against the limit.
func TestConcatLimitOfInts(t *testing.T) {
	for _, n := range []int64{0, 7, -1, 12, math.MaxInt64, math.MinInt64} {
		s := big.NewInt(n).String()
		rest := full("x")[len(s):]
		wantConcat(t, integer(n), text(rest), text(s+rest))
		wantConcat(t, text(rest), integer(n), text(rest+s))
		wantConcatErr(t, integer(n), text(rest+"x"), api.ErrLimit)
		wantConcatErr(t, text(rest+"x"), integer(n), api.ErrLimit)
	}
}

// P4.3: what is no value goes ahead of null, of a blob, of the limit.
func TestConcatWrong(t *testing.T) {
	for _, a := range wrong() {
		for _, b := range append(someOfAll(), wrong()...) {
			wantConcatErr(t, a, b, api.ErrForm)
			wantConcatErr(t, b, a, api.ErrForm)
		}
	}
}

// P4.3: bytes are counted, not letters; null of null.
func TestLength(t *testing.T) {
	v, e := Length(null())
	want(t, "Length(null)", v, e, null())
	for _, c := range []struct {
		s string
		n int64
	}{
		{"", 0}, {"a", 1}, {"abc", 3}, {"-12", 3}, {"\x00", 1}, {"a\x00b", 3}, {"\xff\xff", 2}, {"\xc3\xa4", 2}, {"\xe2\x82\xac", 3}, {full("x")[1:], api.MaxStr - 1}, {full("x"), api.MaxStr},
	} {
		for _, v := range []api.Value{text(c.s), blob(c.s)} {
			n, e := Length(v)
			want(t, "Length("+show(v)+")", n, e, integer(c.n))
		}
	}
}

// P4.3: the name of each kind, whatever the value.
func TestTypeof(t *testing.T) {
	names := map[int]string{api.KindNull: "null", api.KindInt: "integer", api.KindText: "text", api.KindBlob: "blob"}
	for _, v := range someOfAll() {
		n, e := Typeof(v)
		want(t, "Typeof("+show(v)+")", n, e, text(names[v.Kind]))
	}
}

// P4.3: what is no value is malformed.
func TestTextWrong(t *testing.T) {
	for _, v := range wrong() {
		s, e := Text(v)
		wantErr(t, "Text("+show(v)+")", s, e, api.ErrForm)
		s, e = Length(v)
		wantErr(t, "Length("+show(v)+")", s, e, api.ErrForm)
		s, e = Typeof(v)
		wantErr(t, "Typeof("+show(v)+")", s, e, api.ErrForm)
	}
}

// told: what Do tells of two integers, and whether it tells an integer.
func told(op int, a, b api.Value) (api.Value, bool) {
	v, e := Do(op, a, b)
	return v, e == api.OK && v.Kind == api.KindInt
}

// P4.4: sums and products go both ways, also where they are refused.
func TestBothWays(t *testing.T) {
	l := append(someOfAll(), wrong()...)
	for _, n := range edgeInts() {
		l = append(l, integer(n))
	}
	for _, op := range []int{api.OpAdd, api.OpMul} {
		for _, a := range l {
			for _, b := range l {
				v, e := Do(op, a, b)
				if w, f := Do(op, b, a); v != w || e != f {
					t.Errorf("%s: %s, %v, the other way round %s, %v", doOf(op, a, b), show(v), e, show(w), f)
				}
			}
		}
	}
}

// P4.4: sums and products come together in any order, where told.
func TestAnyOrder(t *testing.T) {
	r, edges, seen := rand.New(rand.NewSource(5)), edgeInts(), 0
	some := func() api.Value {
		if r.Intn(3) == 0 {
			return integer(edges[r.Intn(len(edges))])
		}
		return integer(int64(r.Uint64()) >> r.Intn(64))
	}
	for range 200000 {
		a, b, c := some(), some(), some()
		for _, op := range []int{api.OpAdd, api.OpMul} {
			ab, okAB := told(op, a, b)
			bc, okBC := told(op, b, c)
			if !okAB || !okBC {
				continue
			}
			left, okLeft := told(op, ab, c)
			right, okRight := told(op, a, bc)
			if okLeft && okRight {
				seen++
			}
			if okLeft != okRight || left != right {
				t.Fatalf("operation %d of %d, %d, %d: %s or %s", op, a.Int, b.Int, c.Int, show(left), show(right))
			}
		}
	}
	if seen < 1000 {
		t.Errorf("only %d were told both ways", seen)
	}
}

// P4.4: OpDiv times b and OpMod are together a, where told.
func TestDivAndMod(t *testing.T) {
	l := edgeInts()
	for _, a := range l {
		for _, b := range l {
			q, ok := told(api.OpDiv, integer(a), integer(b))
			if !ok {
				continue
			}
			m, ok := told(api.OpMod, integer(a), integer(b))
			if !ok {
				t.Fatalf("%d OpMod %d is not told", a, b)
			}
			p, ok := told(api.OpMul, q, integer(b))
			if !ok {
				t.Fatalf("%d OpDiv %d is %d: times %d it is not told", a, b, q.Int, b)
			}
			wantDo(t, api.OpAdd, p, m, integer(a))
			if m.Int != 0 && (m.Int < 0) != (a < 0) {
				t.Errorf("%d OpMod %d: %d", a, b, m.Int)
			}
		}
	}
}

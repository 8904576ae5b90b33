package logic

import (
	"fmt"
	"math"
	"strings"
	"testing"

	"cadastre/api"
)

func null() api.Value { return api.Value{} }

func integer(n int64) api.Value { return api.Value{Kind: api.KindInt, Int: n} }

func text(s string) api.Value { return api.Value{Kind: api.KindText, Str: s} }

func blob(s string) api.Value { return api.Value{Kind: api.KindBlob, Str: s} }

func full(s string) string { return strings.Repeat(s, api.MaxStr) }

func show(v api.Value) string {
	return fmt.Sprintf("{%d %d %.20q, of %d}", v.Kind, v.Int, v.Str, len(v.Str))
}

// trues: every bit alone makes an integer true, and so do the edges.
func trues() []api.Value {
	l := []api.Value{integer(1), integer(-1), integer(2), integer(-7), integer(5), integer(math.MaxInt64), integer(math.MinInt64), integer(math.MinInt64 + 1)}
	for k := range 64 {
		l = append(l, integer(int64(uint64(1)<<k)))
	}
	return l
}

// truthful: a value for each truth and then some, with what stands for its truth: -1 false, 0 unknown, 1 true.
func truthful() ([]api.Value, []int) {
	vals, truths := []api.Value{integer(0), null()}, []int{-1, 0}
	for _, v := range trues() {
		vals, truths = append(vals, v), append(truths, 1)
	}
	return vals, truths
}

// truthless: values that are neither true nor false nor unknown.
func truthless() []api.Value {
	l := []api.Value{}
	for _, s := range []string{"", "0", "1", "a", "true", "null", "\x00", "\x01", "\xff", full("1")} {
		l = append(l, text(s), blob(s))
	}
	return l
}

// rising: values of every kind, each above the one ahead of it; null is the first one alone.
func rising() []api.Value {
	return []api.Value{
		null(),
		integer(math.MinInt64), integer(math.MinInt64 + 1), integer(-256), integer(-1), integer(0), integer(1), integer(2), integer(255), integer(1 << 32), integer(math.MaxInt64 - 1), integer(math.MaxInt64),
		text(""), text("\x00"), text("0"), text("1"), text("a"), text("aa"), text("b"), text("\x80"), text("\xff"), text(full("\xff")),
		blob(""), blob("\x00"), blob("0"), blob("1"), blob("a"), blob("aa"), blob("b"), blob("\x80"), blob("\xff"), blob(full("\xff")),
	}
}

// wrong: no values, by one fault or by several.
func wrong() []api.Value {
	return []api.Value{
		{Kind: api.KindNull, Int: 1},
		{Kind: api.KindNull, Int: math.MinInt64},
		{Kind: api.KindNull, Str: "a"},
		{Kind: api.KindInt, Str: "a"},
		{Kind: api.KindInt, Int: 1, Str: "1"},
		{Kind: api.KindText, Int: 1},
		{Kind: api.KindText, Int: -1, Str: "a"},
		{Kind: api.KindBlob, Int: 1},
		{Kind: api.KindBlob, Int: math.MaxInt64, Str: "a"},
		text(full("x") + "x"),
		blob(full("x") + "x"),
		{Kind: -1},
		{Kind: -1, Int: 1},
		{Kind: api.KindBlob + 1},
		{Kind: api.KindBlob + 1, Str: "a"},
		{Kind: 256},
		{Kind: 257, Int: 1},
		{Kind: math.MinInt},
		{Kind: math.MaxInt},
	}
}

// opsBeside: what api names and more, without those from low to high.
func opsBeside(low, high int) []int {
	l := []int{math.MinInt, math.MinInt32, -256, -1, 256, 256 + low, 256 + high, 1<<32 + low, 1<<32 + high, low - 1<<32, math.MaxInt32, math.MaxInt}
	for op := api.OpNone; op <= api.OpMax+1; op++ {
		if op < low || op > high {
			l = append(l, op)
		}
	}
	return l
}

// asValue tells the answer that stands for -1 false, 0 unknown, 1 true.
func asValue(truth int) api.Value {
	if truth == 0 {
		return null()
	}
	return integer(int64(truth+1) / 2)
}

func want(t *testing.T, what string, v api.Value, e api.Errno, w api.Value) {
	t.Helper()
	if v != w || e != api.OK {
		t.Errorf("%s: %s, %v, want %s", what, show(v), e, show(w))
	}
}

func wantErr(t *testing.T, what string, v api.Value, e, w api.Errno) {
	t.Helper()
	if v != null() || e != w {
		t.Errorf("%s: %s, %v, want null, %v", what, show(v), e, w)
	}
}

func wantJoin(t *testing.T, op int, a, b, w api.Value) {
	t.Helper()
	v, e := Join(op, a, b)
	want(t, fmt.Sprintf("Join(%d, %s, %s)", op, show(a), show(b)), v, e, w)
}

func wantJoinErr(t *testing.T, op int, a, b api.Value, w api.Errno) {
	t.Helper()
	v, e := Join(op, a, b)
	wantErr(t, fmt.Sprintf("Join(%d, %s, %s)", op, show(a), show(b)), v, e, w)
}

func wantTest(t *testing.T, op int, a, b, w api.Value) {
	t.Helper()
	v, e := Test(op, a, b)
	want(t, fmt.Sprintf("Test(%d, %s, %s)", op, show(a), show(b)), v, e, w)
}

func wantTestErr(t *testing.T, op int, a, b api.Value, w api.Errno) {
	t.Helper()
	v, e := Test(op, a, b)
	wantErr(t, fmt.Sprintf("Test(%d, %s, %s)", op, show(a), show(b)), v, e, w)
}

// P3.1: each integer but 0 is true; 0 and null are not.
func TestTrue(t *testing.T) {
	vals, truths := truthful()
	for i, v := range vals {
		if ok, e := True(v); ok != (truths[i] == 1) || e != api.OK {
			t.Errorf("True(%s): %v, %v", show(v), ok, e)
		}
	}
}

// P3.1: 1 of false, 0 of true, null of unknown.
func TestNot(t *testing.T) {
	vals, truths := truthful()
	for i, v := range vals {
		n, e := Not(v)
		want(t, "Not("+show(v)+")", n, e, asValue(-truths[i]))
	}
}

// P3.1: texts and blobs have no truth, whatever their bytes; beside the error stands the zero value (R4).
func TestNoTruth(t *testing.T) {
	for _, v := range truthless() {
		if ok, e := True(v); ok || e != api.ErrType {
			t.Errorf("True(%s): %v, %v, want false, %v", show(v), ok, e, api.ErrType)
		}
		n, e := Not(v)
		wantErr(t, "Not("+show(v)+")", n, e, api.ErrType)
	}
}

// P3.1: what is no value is malformed, even where its kind has no truth.
func TestTruthWrong(t *testing.T) {
	for _, v := range wrong() {
		if ok, e := True(v); ok || e != api.ErrForm {
			t.Errorf("True(%s): %v, %v, want false, %v", show(v), ok, e, api.ErrForm)
		}
		n, e := Not(v)
		wantErr(t, "Not("+show(v)+")", n, e, api.ErrForm)
	}
}

// P3.2: the chapter's examples.
func TestJoinExamples(t *testing.T) {
	wantJoin(t, api.OpAnd, null(), integer(0), integer(0))
	wantJoin(t, api.OpOr, null(), integer(0), null())
}

// P3.2: of -1 false, 0 unknown, 1 true OpAnd is the least, OpOr the greatest.
func TestJoin(t *testing.T) {
	vals, truths := truthful()
	for i, a := range vals {
		for k, b := range vals {
			wantJoin(t, api.OpAnd, a, b, asValue(min(truths[i], truths[k])))
			wantJoin(t, api.OpOr, a, b, asValue(max(truths[i], truths[k])))
		}
	}
}

// P3.2: no truth on either side, or on both, whatever the other side would settle.
func TestJoinNoTruth(t *testing.T) {
	vals, _ := truthful()
	for _, a := range truthless() {
		for _, b := range append(vals, truthless()...) {
			for op := api.OpAnd; op <= api.OpOr; op++ {
				wantJoinErr(t, op, a, b, api.ErrType)
				wantJoinErr(t, op, b, a, api.ErrType)
			}
		}
	}
}

// P3.2: what is no value goes ahead of what has no truth, on either side.
func TestJoinWrong(t *testing.T) {
	vals, _ := truthful()
	others := append(append(vals, truthless()...), wrong()...)
	for _, a := range wrong() {
		for _, b := range others {
			for op := api.OpAnd; op <= api.OpOr; op++ {
				wantJoinErr(t, op, a, b, api.ErrForm)
				wantJoinErr(t, op, b, a, api.ErrForm)
			}
		}
	}
}

// P3.2: what is no operation of Join goes ahead of what has no truth.
func TestJoinNoOp(t *testing.T) {
	l := []api.Value{null(), integer(0), integer(1), text("a"), blob("a"), {Int: 1}}
	for _, op := range opsBeside(api.OpAnd, api.OpOr) {
		for _, a := range l {
			for _, b := range l {
				wantJoinErr(t, op, a, b, api.ErrForm)
			}
		}
	}
}

// P3.3: each pair of a rising row, for every operation.
func TestTest(t *testing.T) {
	l := rising()[1:]
	for i, a := range l {
		for k, b := range l {
			for op, holds := range map[int]bool{api.OpEq: i == k, api.OpNe: i != k, api.OpLt: i < k, api.OpLe: i <= k, api.OpGt: i > k, api.OpGe: i >= k} {
				truth := -1
				if holds {
					truth = 1
				}
				wantTest(t, op, a, b, asValue(truth))
			}
		}
	}
}

// P3.3: null, if one is null, or if both are.
func TestTestOfNull(t *testing.T) {
	for op := api.OpEq; op <= api.OpGe; op++ {
		for _, v := range rising() {
			wantTest(t, op, null(), v, null())
			wantTest(t, op, v, null(), null())
		}
	}
}

// P3.3: what is no value, on either side, even beside null.
func TestTestWrong(t *testing.T) {
	for op := api.OpEq; op <= api.OpGe; op++ {
		for _, a := range wrong() {
			for _, b := range append(rising(), wrong()...) {
				wantTestErr(t, op, a, b, api.ErrForm)
				wantTestErr(t, op, b, a, api.ErrForm)
			}
		}
	}
}

// P3.3: what is no operation of Test, even beside null.
func TestTestNoOp(t *testing.T) {
	l := []api.Value{null(), integer(0), integer(1), text("a"), blob("a"), {Int: 1}}
	for _, op := range opsBeside(api.OpEq, api.OpGe) {
		for _, a := range l {
			for _, b := range l {
				wantTestErr(t, op, a, b, api.ErrForm)
			}
		}
	}
}

// P3.3: null alone is null; no other value is, and none is unknown.
func TestNull(t *testing.T) {
	for i, v := range rising() {
		is, not := integer(0), integer(1)
		if i == 0 {
			is, not = not, is
		}
		got, e := Null(api.OpIsNull, v)
		want(t, "Null(OpIsNull, "+show(v)+")", got, e, is)
		got, e = Null(api.OpNotNull, v)
		want(t, "Null(OpNotNull, "+show(v)+")", got, e, not)
	}
}

// P3.3: what is no value; what is no operation of Null.
func TestNullWrong(t *testing.T) {
	for _, v := range wrong() {
		for op := api.OpIsNull; op <= api.OpNotNull; op++ {
			got, e := Null(op, v)
			wantErr(t, fmt.Sprintf("Null(%d, %s)", op, show(v)), got, e, api.ErrForm)
		}
	}
	for _, op := range opsBeside(api.OpIsNull, api.OpNotNull) {
		for _, v := range append(rising(), api.Value{Int: 1}) {
			got, e := Null(op, v)
			wantErr(t, fmt.Sprintf("Null(%d, %s)", op, show(v)), got, e, api.ErrForm)
		}
	}
}

func not(t *testing.T, v api.Value) api.Value {
	t.Helper()
	n, e := Not(v)
	if e != api.OK {
		t.Fatalf("Not(%s): %v", show(v), e)
	}
	return n
}

func join(t *testing.T, op int, a, b api.Value) api.Value {
	t.Helper()
	v, e := Join(op, a, b)
	if e != api.OK {
		t.Fatalf("Join(%d, %s, %s): %v", op, show(a), show(b), e)
	}
	return v
}

func test(t *testing.T, op int, a, b api.Value) api.Value {
	t.Helper()
	v, e := Test(op, a, b)
	if e != api.OK {
		t.Fatalf("Test(%d, %s, %s): %v", op, show(a), show(b), e)
	}
	return v
}

// P3.4: Not of one join is the other join of both Nots; and each goes both ways.
func TestJoinFollows(t *testing.T) {
	vals, _ := truthful()
	other := map[int]int{api.OpAnd: api.OpOr, api.OpOr: api.OpAnd}
	for _, a := range vals {
		for _, b := range vals {
			for op, o := range other {
				v := join(t, op, a, b)
				if w := join(t, o, not(t, a), not(t, b)); not(t, v) != w {
					t.Errorf("Not of Join(%d, %s, %s): %s, want %s", op, show(a), show(b), show(not(t, v)), show(w))
				}
				wantJoin(t, op, b, a, v)
			}
		}
	}
}

// P3.4: Not of a test is the test of the opposite; the other way round it is the mirrored test.
func TestTestFollows(t *testing.T) {
	opposite := map[int]int{api.OpEq: api.OpNe, api.OpNe: api.OpEq, api.OpLt: api.OpGe, api.OpGe: api.OpLt, api.OpLe: api.OpGt, api.OpGt: api.OpLe}
	mirror := map[int]int{api.OpEq: api.OpEq, api.OpNe: api.OpNe, api.OpLt: api.OpGt, api.OpGt: api.OpLt, api.OpLe: api.OpGe, api.OpGe: api.OpLe}
	for _, a := range rising() {
		for _, b := range rising() {
			for op, o := range opposite {
				v := test(t, op, a, b)
				wantTest(t, o, a, b, not(t, v))
				wantTest(t, mirror[op], b, a, v)
			}
		}
	}
}

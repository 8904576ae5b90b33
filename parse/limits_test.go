package parse

import (
	"slices"
	"strings"
	"testing"

	"cadastre/api"
)

// commas puts n times s behind one another.
func commas(n int, s string) string { return strings.Join(slices.Repeat([]string{s}, n), ", ") }

func times(n int, s string) string { return strings.Repeat(s, n) }

// parens puts n parentheses round s.
func parens(n int, s string) string { return times(n, "(") + s + times(n, ")") }

func wantOK(t *testing.T, s string) {
	t.Helper()
	if _, e := Parse(s); e != api.OK {
		t.Errorf("Parse(%.300q, of %d bytes): %v", s, len(s), e)
	}
}

// wantEdge: s may be with n, but not with one more.
func wantEdge(t *testing.T, n int, s func(int) string) {
	t.Helper()
	for k := 1; k <= n; k++ {
		wantOK(t, s(k))
	}
	for _, k := range []int{n + 1, n + 2, 2 * n, 5 * n} {
		wantErr(t, s(k), api.ErrLimit)
		wantErr(t, s(k)+" ;", api.ErrLimit)
		wantErr(t, s(k)+" a b", api.ErrForm)
		wantErr(t, s(k)+" ;;", api.ErrForm)
		wantErr(t, s(k)+" !", api.ErrForm)
	}
}

func TestLists(t *testing.T) {
	for _, c := range [][2]string{{"create table t (", "a"}, {"create table t (", "a text not null"}, {"create index i on t (", "a"}, {"create unique index i on t (", "a"}, {"insert into t values (", "1"}, {"insert into t values (", "(a)"}, {"insert into t values (1), (", "1"}, {"insert into t values ((1), 2), (", "1"}} {
		wantEdge(t, api.MaxCols, func(n int) string { return c[0] + commas(n, c[1]) + ")" })
	}
	wantEdge(t, api.MaxCols, func(n int) string { return "insert into t values (" + commas(n, "1") + "), (1)" })
	wantEdge(t, api.MaxCols, func(n int) string { return "update t set " + commas(n, "a = 1") })
	wantEdge(t, api.MaxCols, func(n int) string { return "select " + commas(n, "a") + " from t" })
	wantEdge(t, api.MaxCols, func(n int) string { return "select " + commas(n, "count(*)") + " from t" })
	wantEdge(t, api.MaxCols, func(n int) string { return "select * from t order by " + commas(n, "a") })
	wantEdge(t, api.MaxCols, func(n int) string { return "select * from t order by " + commas(n, "a desc") })
	wantEdge(t, api.MaxFrom, func(n int) string { return "select * from " + commas(n, "t") })
	wantEdge(t, api.MaxFrom, func(n int) string { return "select a from " + commas(n, "t") + " where a order by a" })
	wantErr(t, "create virtual table r using rtree ("+commas(17, "a")+")", api.ErrForm)
	wantOK(t, "select "+commas(16, "a")+" from t, t, t where a order by "+commas(16, "a"))
	wantOK(t, "update t set "+commas(16, "a = a")+" where a")
	wantOK(t, "insert into t values "+commas(200, "(1)"))
	wantErr(t, "insert into t values "+commas(201, "(1)"), api.ErrLimit)
}

// sums is an expression of 2 n - 1 expressions, n of them numbers, that is not high.
func sums(n int) string {
	if n == 1 {
		return "1"
	}
	return "(" + sums(n/2) + "+" + sums(n-n/2) + ")"
}

// worth is an expression of n expressions.
func worth(n int) string {
	if n%2 == 0 {
		return "(- " + sums(n/2) + ")"
	}
	return sums((n + 1) / 2)
}

// TestNodes: all expressions of a statement are counted, Args too, wherever they stand; names that are no expressions are not.
func TestNodes(t *testing.T) {
	for f, others := range map[string]int{"select ? from t, u": 0, "select a, ?, t.b from t": 2, "select * from t where ?": 0, "select a from t where ?": 1, "select * from t order by ? desc": 0, "select a, b from t where c order by d, ?, e": 5, "delete from t where ?": 0, "update t set a = ?": 0, "update t set a = 1, b = ? where c": 2, "update t set a = 1 where ?": 1, "insert into t values (?)": 0, "insert into t values (1, 2), (3, ?)": 3} {
		for s, n := range map[string]int{"null": 1, "'a'": 1, "x''": 1, "a": 1, "t.a": 1, "count(*)": 1, "((1))": 1, "- a": 2, "(not a)": 2, "length(a)": 2, "sum((a))": 2, "(a is null)": 2, "(a is not null)": 2, "t.a * t.b": 3, "(a = b)": 3, "(not a or - b)": 5} {
			k := api.MaxNodes - others - n - 1
			wantOK(t, strings.Replace(f, "?", s+" + "+worth(k), 1))
			wantOK(t, strings.Replace(f, "?", s+" + "+worth(k-1), 1))
			wantErr(t, strings.Replace(f, "?", s+" + "+worth(k+1), 1), api.ErrLimit)
			wantErr(t, strings.Replace(f, "?", s+" + "+worth(k+2), 1), api.ErrLimit)
		}
	}
	for _, f := range []string{"select ?, ? from t where ? order by ?, ?", "select * from t where ? order by ?, ? desc, ?, ?", "update t set a = ?, b = ?, c = ?, d = ? where ?", "insert into t values (?, ?), (?), (?, ?)"} {
		for k := range 5 {
			most, more := f, f
			for i := range 5 {
				most = strings.Replace(most, "?", worth(40), 1)
				if i == k {
					more = strings.Replace(more, "?", worth(41), 1)
				} else {
					more = strings.Replace(more, "?", worth(40), 1)
				}
			}
			wantOK(t, most)
			wantErr(t, more, api.ErrLimit)
		}
	}
	wantOK(t, "insert into t values "+commas(12, "("+commas(16, "1")+")")+", (1,1,1,1,1,1,1,1)")
	wantErr(t, "insert into t values "+commas(12, "("+commas(16, "1")+")")+", (1,1,1,1,1,1,1,1,1)", api.ErrLimit)
}

// TestHeight: of each operation, and of several.
func TestHeight(t *testing.T) {
	for _, f := range []string{"select ? from t", "select 1, ? from t", "select * from t where ?", "select * from t order by 1, ?", "delete from t where ?", "update t set a = ?", "update t set a = 1 where ?", "insert into t values (1), (1, ?)"} {
		in := func(s string) string { return strings.Replace(f, "?", s, 1) }
		wantEdge(t, 19, func(n int) string { return in(times(n, "not ") + "a") })
		wantEdge(t, 19, func(n int) string { return in(times(n, "- ") + "1") })
		wantEdge(t, 19, func(n int) string { return in("a" + times(n, " is null")) })
		wantEdge(t, 19, func(n int) string { return in("a" + times(n, " is not null")) })
		wantEdge(t, 19, func(n int) string { return in("count(*)" + times(n, " is null")) })
		for _, sign := range []string{"or", "and", "=", "<>", "<", "<=", ">", ">=", "+", "-", "*", "/", "%", "||"} {
			wantEdge(t, 19, func(n int) string { return in("a" + times(n, " "+sign+" a")) })
		}
		for _, word := range []string{"length", "typeof", "sum", "min", "max"} {
			wantEdge(t, 19, func(n int) string { return in(times(n, word+"(") + "a" + times(n, ")")) })
		}
		wantEdge(t, 19, func(n int) string { return in(times(n, "(a + ") + "1" + times(n, ")")) })
		wantEdge(t, 17, func(n int) string { return in("not - (" + times(n, "1 + ") + "1)") })
	}
	wantOK(t, "select "+commas(10, "a"+times(9, "+ a"))+" from t")
	wantErr(t, "select "+commas(10, "a"+times(10, "+ a"))+" from t", api.ErrLimit)
}

// TestParentheses: those of expressions and functions count, those of lists do not; beside one another they are not deeper.
func TestParentheses(t *testing.T) {
	for _, f := range []string{"select ? from t", "select (1), ? from t", "select * from t where ?", "select * from t order by 1, ?", "delete from t where ?", "update t set a = ?", "update t set a = 1 where ?", "insert into t values (?)", "insert into t values (1), ((1), ?)"} {
		in := func(s string) string { return strings.Replace(f, "?", s, 1) }
		wantEdge(t, 20, func(n int) string { return in(parens(n, "a")) })
		wantEdge(t, 20, func(n int) string { return in(parens(n, "a + b")) })
		wantEdge(t, 20, func(n int) string { return in("1 + " + parens(n, "'('")) })
		wantEdge(t, 20, func(n int) string { return in(parens(n-1, "length(a)")) })
		wantEdge(t, 20, func(n int) string { return in("max(" + parens(n-1, "a") + ")") })
		wantEdge(t, 20, func(n int) string { return in(parens(n-1, "count(*)")) })
		wantEdge(t, 19, func(n int) string { return in("sum(" + parens(n-1, "count(*)") + ")") })
		wantEdge(t, 10, func(n int) string { return in(times(n, "(length(") + "a" + times(n, "))")) })
		wantOK(t, in(parens(20, "a")+" + "+parens(20, "b")+" = "+parens(19, "count(*)")+" or "+parens(20, "c")))
		wantErr(t, in(parens(20, "a")+" + "+parens(21, "b")+" + "+parens(20, "c")), api.ErrLimit)
		wantErr(t, in(parens(21, "a")+" + "+parens(2, "b")), api.ErrLimit)
		wantErr(t, in(times(21, "(")+"a"+times(20, ")")), api.ErrForm)
		wantErr(t, in(times(21, "(")+"a"+times(22, ")")), api.ErrForm)
		wantErr(t, in(parens(20, "a")+"("), api.ErrForm)
	}
	wantOK(t, "select "+commas(16, "'('")+" from t where '"+times(50, "(")+"' = x'"+times(50, "28")+"'")
	wantOK(t, "insert into t values "+commas(30, parens(20+1, "1")))
	wantErr(t, "insert into t values "+commas(30, parens(20+1, "1"))+", "+parens(22, "1"), api.ErrLimit)
}

// TestErrorsInOrder: lex's errors go ahead of all, ErrForm ahead of ErrLimit, wherever they stand.
func TestErrorsInOrder(t *testing.T) {
	long := times(api.MaxName+1, "a")
	for _, s := range []string{long, "select " + long, "drop drop " + long, "select '" + times(api.MaxStr+1, "a") + "'", "select " + commas(17, "a") + " " + long, times(api.MaxSQL+1, "!"), times(api.MaxSQL+1, " "), "begin" + times(api.MaxSQL, " ")} {
		wantErr(t, s, api.ErrLimit)
	}
	for _, s := range []string{long + " !", "drop table " + long + " 'a", "select " + commas(17, "a") + " from t !", "begin !", "begin x'0'", "select 9223372036854775808 from t"} {
		wantErr(t, s, api.ErrForm)
	}
	wantOK(t, "drop table "+long[1:])
	wantOK(t, "begin"+times(api.MaxSQL-5, " "))
	wantOK(t, "delete from t where a = '"+times(api.MaxStr, "a")+"'")
	for _, s := range []string{"create table t (" + commas(17, "a") + ",)", "create table t (" + commas(17, "a"), "create table t (" + commas(17, "a") + ") a", "create index i on t (" + commas(17, "a") + ", t.a)", "insert into t values (" + commas(17, "1") + "), ()", "insert into t values (), (" + commas(17, "1") + ")", "update t set " + commas(17, "a = 1") + " where", "select " + commas(17, "a") + " from", "select from " + commas(4, "t"), "select a from " + commas(4, "t") + " where", "select a from " + commas(4, "t") + " order by", "select * from t where " + times(20, "not ") + "a b", "select " + times(30, "not ") + "from t", "delete from t where " + parens(30, "a") + " +", "delete from t where " + parens(30, ""), "delete from t where " + sums(200) + " or", "delete t where " + sums(200)} {
		wantErr(t, s, api.ErrForm)
	}
}

// TestDeep: texts that are as deep as their bytes let them be end, too.
func TestDeep(t *testing.T) {
	room := api.MaxSQL - len("select a from t")
	in := func(s string) string { return "select " + s + " from t" }
	wantErr(t, in(parens(room/2, "a")), api.ErrLimit)
	wantErr(t, in(times(room, "(")+"a"), api.ErrForm)
	wantErr(t, in("a"+times(room, ")")), api.ErrForm)
	wantErr(t, times(api.MaxSQL, "("), api.ErrForm)
	wantErr(t, in(times(room/2, "- ")+"a"), api.ErrLimit)
	wantErr(t, in(times(room/2, "- ")), api.ErrForm)
	wantErr(t, in(times(room/4, "not ")+"a"), api.ErrLimit)
	wantErr(t, in("a"+times(room/2, "+a")), api.ErrLimit)
	wantErr(t, in("a"+times(room/2, ",a")), api.ErrLimit)
	wantErr(t, in("a"+times(room/8, " is null")), api.ErrLimit)
	wantErr(t, in(times(room/5, "sum(")+"a"+times(room/5, ")")), api.ErrLimit)
	wantErr(t, in(times(room/5, "(a+(")), api.ErrForm)
	wantErr(t, "insert into t values (1)"+times(room/5, ",(1)"), api.ErrLimit)
	wantErr(t, "select * from t"+times(room/2, ",t"), api.ErrLimit)
	wantErr(t, times(api.MaxSQL/2, "a "), api.ErrForm)
	wantErr(t, times(api.MaxSQL, ";"), api.ErrForm)
}

// TestMoreParentheses: P20.2: more of them round an expression, within the limits, change nothing.
func TestMoreParentheses(t *testing.T) {
	for _, s := range []string{"a", "1", "null", "t.a", "'a'", "x'00'", "count(*)", "length(a)", "- a", "not a", "a is null", "a + b * c", "a or b and c = d"} {
		w, e := Parse("select " + s + " from t where " + s + " order by " + s)
		if e != api.OK {
			t.Fatalf("%s: %v", s, e)
		}
		for n := range 20 {
			p := parens(n, s)
			wantStmt(t, "select "+p+" from t where "+p+" order by "+p+" ;", w)
		}
	}
}

// spoil writes into all lists of s, spare room too.
func spoil(s api.Stmt) {
	wrong := lit(api.Value{Kind: api.KindText, Str: "spoilt"})
	for _, l := range s.Rows[:cap(s.Rows)] {
		spoilExprs(l, wrong)
	}
	clear(s.Rows[:cap(s.Rows)])
	spoilExprs(s.Out, wrong)
	spoilExprs(s.Where, wrong)
	for _, x := range s.Sets {
		spoilExprs(x.E.Args, wrong)
	}
	for _, o := range s.Order {
		spoilExprs(o.E.Args, wrong)
	}
	clear(s.Sets[:cap(s.Sets)])
	clear(s.Order[:cap(s.Order)])
	clear(s.Cols[:cap(s.Cols)])
	clear(s.Names[:cap(s.Names)])
	clear(s.From[:cap(s.From)])
}

func spoilExprs(l []api.Expr, wrong api.Expr) {
	l = l[:cap(l)]
	for i := range l {
		spoilExprs(l[i].Args, wrong)
		l[i] = wrong
	}
}

// TestTold: who writes into what is told, or appends to it, changes nothing that is told else (R2); the same call tells the same (R4).
func TestTold(t *testing.T) {
	m := newModel()
	for _, s := range statements() {
		w, e := m.parse(s)
		if e != api.OK {
			t.Fatal(s, e)
		}
		first, _ := Parse(s)
		second, _ := Parse(s)
		spoil(first)
		if !sameStmt(second, w) {
			t.Errorf("%s: %+v, want %+v", s, second, w)
		}
		wantStmt(t, s, w)
	}
}

// TestOwnLists: no two lists of one answer share memory: what is appended to one is not in another.
func TestOwnLists(t *testing.T) {
	const s = "insert into t values (1, 2, 3), (a + b, - c, sum(d)), (4, 5, 6)"
	w, e := newModel().parse(s)
	if e != api.OK {
		t.Fatal(e)
	}
	x, _ := Parse(s)
	for i := range x.Rows {
		_ = append(x.Rows[i], str("spoilt"))
		for j := range x.Rows[i] {
			_ = append(x.Rows[i][j].Args, str("spoilt"), str("spoilt"))
		}
	}
	if !sameStmt(x, w) {
		t.Errorf("%+v, want %+v", x, w)
	}
	x.Rows[1][0].Args[0] = str("spoilt")
	x.Rows[2][1] = str("spoilt")
	if !sameExprs(x.Rows[0], w.Rows[0]) || !sameExprs(x.Rows[1][1:], w.Rows[1][1:]) || !sameExpr(x.Rows[2][2], w.Rows[2][2]) {
		t.Errorf("%+v, want %+v", x, w)
	}
}

package parse

import (
	"fmt"
	"slices"
	"strings"
	"testing"

	"cadastre/api"
)

func num(n int64) api.Expr { return lit(api.Value{Kind: api.KindInt, Int: n}) }

func str(s string) api.Expr { return lit(api.Value{Kind: api.KindText, Str: s}) }

func blob(s string) api.Expr { return lit(api.Value{Kind: api.KindBlob, Str: s}) }

func null() api.Expr { return api.Expr{Op: api.OpLit} }

func col(s string) api.Expr {
	if table, name, ok := strings.Cut(s, "."); ok {
		return api.Expr{Op: api.OpCol, Table: table, Name: name}
	}
	return api.Expr{Op: api.OpCol, Name: s}
}

func op(n int, args ...api.Expr) api.Expr { return api.Expr{Op: n, Args: args} }

func exprs(l ...api.Expr) []api.Expr { return l }

// sameExpr, sameStmt: a nil list and an empty one are one (R2).
func sameExpr(a, b api.Expr) bool {
	return a.Op == b.Op && a.Val == b.Val && a.Table == b.Table && a.Name == b.Name && slices.EqualFunc(a.Args, b.Args, sameExpr)
}

func sameExprs(a, b []api.Expr) bool { return slices.EqualFunc(a, b, sameExpr) }

func sameStmt(a, b api.Stmt) bool {
	return a.Kind == b.Kind && a.Name == b.Name && a.Table == b.Table && a.Unique == b.Unique && a.Star == b.Star &&
		slices.Equal(a.Cols, b.Cols) && slices.Equal(a.Names, b.Names) && slices.Equal(a.From, b.From) &&
		slices.EqualFunc(a.Rows, b.Rows, sameExprs) && sameExprs(a.Out, b.Out) && sameExprs(a.Where, b.Where) &&
		slices.EqualFunc(a.Sets, b.Sets, func(x, y api.Set) bool { return x.Name == y.Name && sameExpr(x.E, y.E) }) &&
		slices.EqualFunc(a.Order, b.Order, func(x, y api.Order) bool { return x.Desc == y.Desc && sameExpr(x.E, y.E) })
}

func wantStmt(t *testing.T, s string, w api.Stmt) {
	t.Helper()
	if x, e := Parse(s); !sameStmt(x, w) || e != api.OK {
		t.Errorf("Parse(%.300q, of %d bytes): %.600s, %v, want %.600s", s, len(s), fmt.Sprintf("%+v", x), e, fmt.Sprintf("%+v", w))
	}
}

// wantErr: beside an error stands no statement (R4).
func wantErr(t *testing.T, s string, w api.Errno) {
	t.Helper()
	if x, e := Parse(s); !sameStmt(x, api.Stmt{}) || e != w {
		t.Errorf("Parse(%.300q, of %d bytes): %.600s, %v, want %v", s, len(s), fmt.Sprintf("%+v", x), e, w)
	}
}

func wantModel(t *testing.T, m *model, s string) {
	t.Helper()
	if w, e := m.parse(s); e != api.OK {
		wantErr(t, s, e)
	} else {
		wantStmt(t, s, w)
	}
}

func wantExpr(t *testing.T, s string, w api.Expr) {
	t.Helper()
	from := []string{"t"}
	wantStmt(t, "select "+s+" from t", api.Stmt{Kind: api.StmtSelect, Out: exprs(w), From: from})
	wantStmt(t, "select "+s+", "+s+" from t;", api.Stmt{Kind: api.StmtSelect, Out: exprs(w, w), From: from})
	wantStmt(t, "select * from t where "+s, api.Stmt{Kind: api.StmtSelect, Star: true, From: from, Where: exprs(w)})
	wantStmt(t, "select a from t order by "+s+" desc, "+s, api.Stmt{Kind: api.StmtSelect, Out: exprs(col("a")), From: from, Order: []api.Order{{E: w, Desc: true}, {E: w}}})
	wantStmt(t, "insert into t values ("+s+"), (1, "+s+")", api.Stmt{Kind: api.StmtInsert, Table: "t", Rows: [][]api.Expr{exprs(w), exprs(num(1), w)}})
	wantStmt(t, "delete from t where "+s, api.Stmt{Kind: api.StmtDelete, Table: "t", Where: exprs(w)})
	wantStmt(t, "update t set a = "+s+" where "+s, api.Stmt{Kind: api.StmtUpdate, Table: "t", Sets: []api.Set{{Name: "a", E: w}}, Where: exprs(w)})
}

// TestExamples: the chapter's.
func TestExamples(t *testing.T) {
	wantExpr(t, "a + 1 * 2", op(api.OpAdd, col("a"), op(api.OpMul, num(1), num(2))))
	wantExpr(t, "not a = b", op(api.OpNot, op(api.OpEq, col("a"), col("b"))))
}

func TestDefinitions(t *testing.T) {
	wantStmt(t, "create table t (a)", api.Stmt{Kind: api.StmtTable, Name: "t", Cols: []api.Column{{Name: "a", Type: api.TypeAny}}})
	wantStmt(t, "CREATE TABLE T (A Any Not Null, b INTEGER, c text, d blob, e not null, a, integers integer not null, f text not null, g blob not null, rowid);", api.Stmt{Kind: api.StmtTable, Name: "t", Cols: []api.Column{
		{Name: "a", Type: api.TypeAny, NotNull: true}, {Name: "b", Type: api.TypeInt}, {Name: "c", Type: api.TypeText}, {Name: "d", Type: api.TypeBlob}, {Name: "e", Type: api.TypeAny, NotNull: true},
		{Name: "a", Type: api.TypeAny}, {Name: "integers", Type: api.TypeInt, NotNull: true}, {Name: "f", Type: api.TypeText, NotNull: true}, {Name: "g", Type: api.TypeBlob, NotNull: true}, {Name: "rowid", Type: api.TypeAny}}})
	wantStmt(t, "create virtual table r using rtree(id,x0,x1,y0,id)", api.Stmt{Kind: api.StmtVirtual, Name: "r", Cols: []api.Column{
		{Name: "id", Type: api.TypeInt, NotNull: true}, {Name: "x0", Type: api.TypeInt, NotNull: true}, {Name: "x1", Type: api.TypeInt, NotNull: true}, {Name: "y0", Type: api.TypeInt, NotNull: true}, {Name: "id", Type: api.TypeInt, NotNull: true}}})
	wantStmt(t, "create index i on t (a)", api.Stmt{Kind: api.StmtIndex, Name: "i", Table: "t", Names: []string{"a"}})
	wantStmt(t, "create unique index i on i (a, i, a);", api.Stmt{Kind: api.StmtIndex, Name: "i", Table: "i", Unique: true, Names: []string{"a", "i", "a"}})
	wantStmt(t, "drop table t", api.Stmt{Kind: api.StmtDropTable, Name: "t"})
	wantStmt(t, "drop index t", api.Stmt{Kind: api.StmtDropIndex, Name: "t"})
	wantStmt(t, "begin", api.Stmt{Kind: api.StmtBegin})
	wantStmt(t, " -- a remark\nCOMMIT--\n;--", api.Stmt{Kind: api.StmtCommit})
	wantStmt(t, "rollback;", api.Stmt{Kind: api.StmtRollback})
}

func TestChangesAndSelects(t *testing.T) {
	wantStmt(t, "insert into t values (1)", api.Stmt{Kind: api.StmtInsert, Table: "t", Rows: [][]api.Expr{exprs(num(1))}})
	wantStmt(t, "insert into t values (1, 'it''s'), (x'00fF'), (null, a, t.a, '', x'')", api.Stmt{Kind: api.StmtInsert, Table: "t", Rows: [][]api.Expr{
		exprs(num(1), str("it's")), exprs(blob("\x00\xff")), exprs(null(), col("a"), col("t.a"), str(""), blob(""))}})
	wantStmt(t, "delete from t", api.Stmt{Kind: api.StmtDelete, Table: "t"})
	wantStmt(t, "update t set a = 1", api.Stmt{Kind: api.StmtUpdate, Table: "t", Sets: []api.Set{{Name: "a", E: num(1)}}})
	wantStmt(t, "update t set a = b = c, a = 2 where a = b", api.Stmt{Kind: api.StmtUpdate, Table: "t",
		Sets: []api.Set{{Name: "a", E: op(api.OpEq, col("b"), col("c"))}, {Name: "a", E: num(2)}}, Where: exprs(op(api.OpEq, col("a"), col("b")))})
	wantStmt(t, "select * from t", api.Stmt{Kind: api.StmtSelect, Star: true, From: []string{"t"}})
	wantStmt(t, "select a, b*c from t, u, t where d order by e, f desc, g", api.Stmt{Kind: api.StmtSelect,
		Out: exprs(col("a"), op(api.OpMul, col("b"), col("c"))), From: []string{"t", "u", "t"}, Where: exprs(col("d")),
		Order: []api.Order{{E: col("e")}, {E: col("f"), Desc: true}, {E: col("g")}}})
}

func TestClosest(t *testing.T) {
	for _, n := range []int64{0, 1, 42, 1<<63 - 1} {
		wantExpr(t, fmt.Sprint(n), num(n))
	}
	for s, w := range map[string]api.Expr{"''": str(""), "'a'": str("a"), "'null'": str("null"), "'('": str("("), "x''": blob(""), "x'616263'": blob("abc"), "null": null(), "a": col("a"), "rowid": col("rowid"), "t.a": col("t.a"), "t . rowid": col("t.rowid")} {
		wantExpr(t, s, w)
		wantExpr(t, "("+s+")", w)
		wantExpr(t, "- (("+s+"))", op(api.OpNeg, w))
		for word, n := range map[string]int{"length": api.OpLength, "typeof": api.OpTypeof, "sum": api.OpSum, "min": api.OpMin, "max": api.OpMax} {
			wantExpr(t, word+"("+s+")", op(n, w))
			wantExpr(t, word+" ( "+s+" = "+s+" )", op(n, op(api.OpEq, w, w)))
			wantExpr(t, word+"(("+word+"("+s+")))", op(n, op(n, w)))
		}
	}
	wantExpr(t, "count(*)", op(api.OpCount))
	wantExpr(t, "(count ( * ) * count(*))", op(api.OpMul, op(api.OpCount), op(api.OpCount)))
	wantExpr(t, "length(not a or b)", op(api.OpLength, op(api.OpOr, op(api.OpNot, col("a")), col("b"))))
}

// TestNoStatements: what the chapter does not name is malformed.
func TestNoStatements(t *testing.T) {
	for _, s := range []string{
		"", " ", "--", ";", ";;", "a", "1", "'begin'", "x''", "(begin)", "begin begin", "begin;;", ";begin", "begin; commit", "begin commit", "begin transaction", "rollback to a", "begin,", "explain begin",
		"create", "create table", "create table t", "create table t a", "create table t (", "create table t (a", "create table t ()", "create table t (,)", "create table t (a,)", "create table t (,a)", "create table t (a b)", "create table t (a,,b)", "create table t (a)(b)", "create table t (a) b",
		"create table t (a int)", "create table t (a null)", "create table t (a not)", "create table t (a not null not null)", "create table t (a not null integer)", "create table t (a text text)", "create table t (a any blob)", "create table t (1)", "create table t ('a')", "create table t (a.b)", "create table t.u (a)", "create table 't' (a)", "create table t ((a))", "create table t (a unique)", "create table (a)",
		"create virtual table r", "create virtual r using rtree (a,b,c,d,e)", "create table r using rtree (a,b,c,d,e)", "create virtual table r rtree (a,b,c,d,e)", "create virtual table r using rtree", "create virtual table r using rtree ()", "create virtual table r using rtree (a)", "create virtual table r using rtree (a,b,c,d)", "create virtual table r using rtree (a,b,c,d,)", "create virtual table r using rtree (a,b,c,d,e", "create virtual table r using rtree (a,b,c,d,e,)", "create virtual table r using rtree (a,b,c,d,e,f)", "create virtual table r using rtree (a integer,b,c,d,e)", "create virtual table r using rtree (a,b,c,d,e not null)", "create virtual table r using boxes (a,b,c,d,e)", "create unique virtual table r using rtree (a,b,c,d,e)", "create virtual index r on t (a)",
		"create index", "create index i", "create index i on", "create index i on t", "create index i on t (", "create index i on t ()", "create index i on t (a", "create index i on t (a,)", "create index i on t (a b)", "create index i on t (a desc)", "create index i on t (t.a)", "create index i on t (1)", "create index i t (a)", "create index on t (a)", "create unique i on t (a)", "create unique unique index i on t (a)", "create index unique i on t (a)", "create unique table t (a)", "index i on t (a)",
		"drop", "drop t", "drop table", "drop index", "drop virtual table t", "drop unique index t", "drop table t, u", "drop table t u", "drop table 't'", "drop table (t)", "drop table t.u", "drop index i on t",
	} {
		wantErr(t, s, api.ErrForm)
	}
	for _, s := range []string{
		"insert", "insert into", "insert into t", "insert into t values", "insert into t values (", "insert into t values ()", "insert into t values (1", "insert into t values (1,)", "insert into t values (,1)", "insert into t values 1", "insert into t values 1, 2", "insert into t values (1) (2)", "insert into t values (1),", "insert into t values (1), ()", "insert into t values (1), 2", "insert into t values ((1)", "insert into t values (1))", "insert into t values ((1, 2))", "insert into t values (*)", "insert into t values (1 2)", "insert into t (a) values (1)", "insert into t value (1)", "insert t values (1)", "insert into t, u values (1)", "insert into t values (1) where a", "insert into t select * from t", "insert into t values (1 desc)",
		"delete", "delete t", "delete from", "delete from t where", "delete from t, u", "delete from t a", "delete from t a = 1", "delete from t where a, b", "delete from t where a where b", "delete * from t", "delete from t order by a", "delete from 't'", "delete from t.u",
		"update", "update t", "update t set", "update t set a", "update t set a =", "update t set a = 1,", "update t set a = 1 b = 2", "update t set a = 1, b", "update t set = 1", "update t set 1 = a", "update t set t.a = 1", "update t set (a) = 1", "update t set a == 1", "update t set a <> 1", "update t set a = 1 where", "update t a = 1", "update t where a", "update set a = 1", "update t, u set a = 1", "update t set a = * ", "update t set a = 1 order by a", "update t set a = 1 where a, b",
		"select", "select *", "select a", "select from t", "select * from", "select a from", "select a b from t", "select a, from t", "select , a from t", "select a,, b from t", "select *, a from t", "select a, * from t", "select * * from t", "select (*) from t", "select t.* from t", "select a from t t", "select a from t,", "select a from t, , u", "select a from (t)", "select a from t.u", "select a from 't'", "select a from 1", "select (a, b) from t", "select a from t where", "select a from t where *", "select a from t where a, b", "select a from t where a where b", "select a from t order", "select a from t by a", "select a from t order a", "select a from t order by", "select a from t order by a,", "select a from t order by *", "select a from t order by a asc", "select a from t order by desc", "select a from t order by a desc desc", "select a from t order by a order by b", "select a from t order by a where b", "select a desc from t", "select a from t desc", "select a from t limit 1", "select distinct a from t", "select a as b from t", "select a from t group by a", "from t select a", "select a from t; select a from t", "select a where b from t", "select 1",
	} {
		wantErr(t, s, api.ErrForm)
	}
}

func TestNoExpressions(t *testing.T) {
	for _, s := range []string{
		"()", "(", ")", "(a", "a)", "((a)", "(a))", "a b", "1 2", "a 1", "1 a", "'a' 'b'", "a (b)", "(a) b", "(a)(b)", "a(", "a()", "a.", ".a", "a..b", "a.b.c", "a.1", "1.a", "1.5", "'a'.b", "(a).b", "a.(b)", "a.*", "a.null", "null.a", "a.'b'", "a.count(*)",
		"+", "-", "- -", "+ a", "a +", "a + + b", "a *", "* a", "a * * b", "a * + b", "a ||", "|| a", "a || || b", "a =", "= a", "a = = b", "a == b", "a < > b", "a > = b", "a = < b", "a %", "% a", "/ a", "a / / b", "- * a", "a - / b",
		"not", "not not", "a not", "a not b", "a = not b", "a + not b", "- not a", "a || not b", "a is", "a is not", "a is b", "a is not b", "a is null null", "a is not not null", "is null", "a is (null)", "a not null", "a not is null", "a is null b", "not is null", "a = is null", "a isnull", "null is", "a is 'null'", "a is not 1",
		"or", "and", "a or", "or a", "a and", "and a", "a or or b", "a and and b", "a and or b", "a or and b", "a not or b", "a in b", "a like b", "a between b and c",
		"count", "count *", "count()", "count(a)", "count(1)", "count(*", "count *)", "count((*))", "count(* *)", "count(*, *)", "count(*)(*)", "count.a", "a.count",
		"length", "length a", "length()", "length(", "length(a", "length(*)", "length(a, b)", "length(a b)", "(length) (a)", "typeof(*)", "typeof()", "typeof a", "sum(*)", "sum()", "sum a", "min(a, b)", "min(*)", "min()", "max(*)", "max()", "max(a, b)", "avg(a)", "abs(a)", "t.length(a)",
		"a, ", ", a", "a;", "(a, b)", "(a;)", "(a desc)", "select a from t", "(select a from t)", "desc", "a desc b", "integer", "text", "any", "(values)", "a ! b", "a | b", "\"a\"", "x'0'", "'a", "9223372036854775808", "- 9223372036854775808",
	} {
		for _, w := range []string{"select " + s + " from t", "select * from t where " + s + " order by a", "select * from t order by " + s + " desc", "delete from t where (" + s + ")", "update t set a = " + s + " where b", "insert into t values (" + s + ")", "insert into t values (1, " + s + ", 2)", "select length(" + s + ") from t"} {
			wantErr(t, w, api.ErrForm)
		}
	}
}

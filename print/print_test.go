package print

import (
	"fmt"
	"slices"
	"strings"
	"testing"

	"cadastre/api"
	"cadastre/parse"
)

func lit(v api.Value) api.Expr { return api.Expr{Op: api.OpLit, Val: v} }

func num(n int64) api.Expr { return lit(api.Value{Kind: api.KindInt, Int: n}) }

func str(s string) api.Expr { return lit(api.Value{Kind: api.KindText, Str: s}) }

func blob(s string) api.Expr { return lit(api.Value{Kind: api.KindBlob, Str: s}) }

func null() api.Expr { return api.Expr{Op: api.OpLit} }

func col(s string) api.Expr {
	if table, name, ok := strings.Cut(s, "."); ok {
		return api.Expr{Op: api.OpCol, Table: table, Name: name}
	}
	return api.Expr{Op: api.OpCol, Name: s}
}

func op(n int, args ...api.Expr) api.Expr { return api.Expr{Op: n, Args: args} }

func exprs(l ...api.Expr) []api.Expr { return l }

// sameExpr, sameStmt: a nil list and an empty one are one (R2).
func sameExpr(a, b api.Expr) bool {
	return a.Op == b.Op && a.Val == b.Val && a.Table == b.Table && a.Name == b.Name && slices.EqualFunc(a.Args, b.Args, sameExpr)
}

func sameExprs(a, b []api.Expr) bool { return slices.EqualFunc(a, b, sameExpr) }

func sameStmt(a, b api.Stmt) bool {
	return a.Kind == b.Kind && a.Name == b.Name && a.Table == b.Table && a.Unique == b.Unique && a.Star == b.Star &&
		slices.Equal(a.Cols, b.Cols) && slices.Equal(a.Names, b.Names) && slices.Equal(a.From, b.From) &&
		slices.EqualFunc(a.Rows, b.Rows, sameExprs) && sameExprs(a.Out, b.Out) && sameExprs(a.Where, b.Where) &&
		slices.EqualFunc(a.Sets, b.Sets, func(x, y api.Set) bool { return x.Name == y.Name && sameExpr(x.E, y.E) }) &&
		slices.EqualFunc(a.Order, b.Order, func(x, y api.Order) bool { return x.Desc == y.Desc && sameExpr(x.E, y.E) })
}

// shown is short enough to be told.
func shown(x any) string { return fmt.Sprintf("%.400s", fmt.Sprintf("%+v", x)) }

// wantText: s has this text, which is its own again (P21.3).
func wantText(t *testing.T, s api.Stmt, w string) {
	t.Helper()
	if e := Check(s); e != api.OK {
		t.Errorf("Check(%s): %v", shown(s), e)
	}
	if text, e := Print(s); text != w || e != api.OK {
		t.Errorf("Print(%s): %.400q, %v, want %.400q", shown(s), text, e, w)
	}
	if x, e := parse.Parse(w); !sameStmt(x, s) || e != api.OK {
		t.Errorf("Parse(%.400q): %s, %v, want %s", w, shown(x), e, shown(s))
	}
}

// wantLong: s may be, but has no text.
func wantLong(t *testing.T, s api.Stmt) {
	t.Helper()
	if e := Check(s); e != api.OK {
		t.Errorf("Check(%s): %v", shown(s), e)
	}
	if text, e := Print(s); text != "" || e != api.ErrLimit {
		t.Errorf("Print(%s): %.400q, of %d bytes, %v", shown(s), text, len(text), e)
	}
}

// wantNone: s may not be.
func wantNone(t *testing.T, s api.Stmt) {
	t.Helper()
	if e := Check(s); e != api.ErrForm {
		t.Errorf("Check(%s): %v", shown(s), e)
	}
	if text, e := Print(s); text != "" || e != api.ErrForm {
		t.Errorf("Print(%s): %.400q, %v", shown(s), text, e)
	}
}

func wantExprText(t *testing.T, x api.Expr, w string) {
	t.Helper()
	if text, e := Expr(x); text != w || e != api.OK {
		t.Errorf("Expr(%s): %.400q, %v, want %.400q", shown(x), text, e, w)
	}
}

func wantNoExpr(t *testing.T, x api.Expr) {
	t.Helper()
	if text, e := Expr(x); text != "" || e != api.ErrForm {
		t.Errorf("Expr(%s): %.400q, %v", shown(x), text, e)
	}
}

// wantEverywhere: wherever x stands, alone too, its text is w.
func wantEverywhere(t *testing.T, x api.Expr, w string) {
	t.Helper()
	wantExprText(t, x, w)
	for _, f := range withExpr() {
		s := f.stmt(x)
		wantText(t, s, stmtText(s))
		if text, _ := Print(s); text != strings.ReplaceAll(f.text, "?", w) {
			t.Errorf("Print(%s): %.400q, want %.400q with %.400q", shown(s), text, f.text, w)
		}
	}
}

// TestExample: the chapter's.
func TestExample(t *testing.T) {
	wantText(t, api.Stmt{Kind: api.StmtSelect, Out: exprs(op(api.OpAdd, col("a"), op(api.OpMul, num(1), num(2))), op(api.OpCount)), From: []string{"t"},
		Where: exprs(op(api.OpNot, op(api.OpIsNull, col("a")))), Order: []api.Order{{E: col("a"), Desc: true}}},
		"select a + (1 * 2), count(*) from t where not (a is null) order by a desc")
}

func TestDefinitions(t *testing.T) {
	wantText(t, api.Stmt{Kind: api.StmtTable, Name: "t", Cols: []api.Column{{Name: "a", Type: api.TypeAny}}}, "create table t (a any)")
	wantText(t, api.Stmt{Kind: api.StmtTable, Name: "_t1", Cols: []api.Column{
		{Name: "a", Type: api.TypeAny, NotNull: true}, {Name: "b", Type: api.TypeInt}, {Name: "c", Type: api.TypeText}, {Name: "d", Type: api.TypeBlob},
		{Name: "a", Type: api.TypeInt, NotNull: true}, {Name: "rowid", Type: api.TypeText, NotNull: true}, {Name: "_t1", Type: api.TypeBlob, NotNull: true}, {Name: "f", Type: api.TypeAny}}},
		"create table _t1 (a any not null, b integer, c text, d blob, a integer not null, rowid text not null, _t1 blob not null, f any)")
	wantText(t, api.Stmt{Kind: api.StmtVirtual, Name: "r", Cols: boxes("id", "x0", "x1", "y0", "id")}, "create virtual table r using rtree (id, x0, x1, y0, id)")
	wantText(t, api.Stmt{Kind: api.StmtIndex, Name: "i", Table: "t", Names: []string{"a"}}, "create index i on t (a)")
	wantText(t, api.Stmt{Kind: api.StmtIndex, Name: "i", Table: "i", Unique: true, Names: []string{"a", "i", "a"}}, "create unique index i on i (a, i, a)")
	wantText(t, api.Stmt{Kind: api.StmtDropTable, Name: "t"}, "drop table t")
	wantText(t, api.Stmt{Kind: api.StmtDropIndex, Name: "t"}, "drop index t")
	wantText(t, api.Stmt{Kind: api.StmtBegin}, "begin")
	wantText(t, api.Stmt{Kind: api.StmtCommit}, "commit")
	wantText(t, api.Stmt{Kind: api.StmtRollback}, "rollback")
}

func TestChangesAndSelects(t *testing.T) {
	wantText(t, api.Stmt{Kind: api.StmtInsert, Table: "t", Rows: [][]api.Expr{exprs(num(1))}}, "insert into t values (1)")
	wantText(t, api.Stmt{Kind: api.StmtInsert, Table: "t", Rows: [][]api.Expr{exprs(num(1), str("it's")), exprs(null()), exprs(op(api.OpNeg, num(2)), blob("\x00\xff"), op(api.OpCount))}},
		"insert into t values (1, 'it''s'), (null), (- 2, x'00ff', count(*))")
	wantText(t, api.Stmt{Kind: api.StmtDelete, Table: "t"}, "delete from t")
	wantText(t, api.Stmt{Kind: api.StmtDelete, Table: "t", Where: exprs(op(api.OpNot, col("t.a")))}, "delete from t where not t.a")
	wantText(t, api.Stmt{Kind: api.StmtUpdate, Table: "t", Sets: []api.Set{{Name: "a", E: num(1)}}}, "update t set a = 1")
	wantText(t, api.Stmt{Kind: api.StmtUpdate, Table: "t", Sets: []api.Set{{Name: "a", E: op(api.OpEq, col("b"), col("c"))}, {Name: "a", E: op(api.OpNeg, col("a"))}}, Where: exprs(col("d"))},
		"update t set a = b = c, a = - a where d")
	wantText(t, api.Stmt{Kind: api.StmtSelect, Star: true, From: []string{"t"}}, "select * from t")
	wantText(t, api.Stmt{Kind: api.StmtSelect, Out: exprs(col("a")), From: []string{"t"}}, "select a from t")
	wantText(t, api.Stmt{Kind: api.StmtSelect, Star: true, From: []string{"t", "u", "t"}, Where: exprs(num(0))}, "select * from t, u, t where 0")
	wantText(t, api.Stmt{Kind: api.StmtSelect, Out: exprs(col("a"), col("t.b"), null()), From: []string{"t"}, Order: []api.Order{{E: col("c")}, {E: col("d"), Desc: true}, {E: num(3)}}},
		"select a, t.b, null from t order by c, d desc, 3")
}

func TestLiteralsAndColumns(t *testing.T) {
	for w, x := range map[string]api.Expr{
		"0": num(0), "1": num(1), "1000": num(1000), "9223372036854775807": num(1<<63 - 1), "null": null(),
		"''": str(""), "'a'": str("a"), "''''": str("'"), "''''''": str("''"), "'it''s'": str("it's"), "'null'": str("null"), "'A b'": str("A b"), "'('": str("("), "')'": str(")"), "'length'": str("length"), "','": str(","), "'.'": str("."), "'-- '": str("-- "), "'a\n\x00\xff\t'": str("a\n\x00\xff\t"), "'x''00'''": str("x'00'"), "'\u00e9'": str("\u00e9"), "';'": str(";"),
		"x''": blob(""), "x'00'": blob("\x00"), "x'00ff0a'": blob("\x00\xff\n"), "x'27'": blob("'"), "x'0123456789abcdef'": blob("\x01\x23\x45\x67\x89\xab\xcd\xef"),
		"a": col("a"), "t.a": col("t.a"), "rowid": col("rowid"), "t.rowid": col("t.rowid"), "_": col("_"), "_._": col("_._"), "x": col("x"), "nulls": col("nulls"), "a1.b2": col("a1.b2"),
	} {
		wantEverywhere(t, x, w)
		wantEverywhere(t, op(api.OpNeg, x), "- "+w)
		wantEverywhere(t, op(api.OpSum, x), "sum("+w+")")
		wantEverywhere(t, op(api.OpMul, x, x), w+" * "+w)
	}
	for c := range 256 {
		s := string([]byte{byte(c)})
		wantExprText(t, blob(s), fmt.Sprintf("x'%02x'", c))
		if c != '\'' {
			wantExprText(t, str(s), "'"+s+"'")
		}
	}
	wantExprText(t, str(strings.Repeat("'", api.MaxStr)), strings.Repeat("'", 2*api.MaxStr+2))
	wantExprText(t, blob(strings.Repeat("\xa0", api.MaxStr)), "x'"+strings.Repeat("a0", api.MaxStr)+"'")
}

// signs are the operations that are no functions, with b and c as their Args.
func signs() map[int]string {
	return map[int]string{api.OpNeg: "- b", api.OpNot: "not b", api.OpIsNull: "b is null", api.OpNotNull: "b is not null", api.OpMul: "b * c", api.OpDiv: "b / c", api.OpMod: "b % c", api.OpAdd: "b + c", api.OpSub: "b - c", api.OpConcat: "b || c",
		api.OpEq: "b = c", api.OpNe: "b <> c", api.OpLt: "b < c", api.OpLe: "b <= c", api.OpGt: "b > c", api.OpGe: "b >= c", api.OpAnd: "b and c", api.OpOr: "b or c"}
}

// functions have b as their Arg.
func functions() map[int]string {
	return map[int]string{api.OpLength: "length(b)", api.OpTypeof: "typeof(b)", api.OpCount: "count(*)", api.OpSum: "sum(b)", api.OpMin: "min(b)", api.OpMax: "max(b)"}
}

func countOf(n int) int {
	switch n {
	case api.OpLit, api.OpCol, api.OpCount:
		return 0
	case api.OpNeg, api.OpNot, api.OpIsNull, api.OpNotNull, api.OpLength, api.OpTypeof, api.OpSum, api.OpMin, api.OpMax:
		return 1
	}
	return 2
}

func ofBC(n int) api.Expr { return op(n, exprs(col("b"), col("c"))[:countOf(n)]...) }

// TestOperations: each one, and each one as each Arg of each other one: in parentheses, if both are signs.
func TestOperations(t *testing.T) {
	if len(signs())+len(functions())+2 != api.OpMax {
		t.Fatal("an operation is left out")
	}
	for n, w := range signs() {
		wantEverywhere(t, ofBC(n), w)
		for k, v := range functions() {
			wantEverywhere(t, ofBC(k), v)
			if countOf(k) > 0 {
				wantEverywhere(t, op(k, ofBC(n)), strings.Replace(v, "b", w, 1))
			}
			for i := range countOf(n) {
				x := ofBC(n)
				x.Args[i] = ofBC(k)
				wantEverywhere(t, x, strings.Replace(w, []string{"b", "c"}[i], v, 1))
			}
		}
		for k, v := range signs() {
			for i := range countOf(k) {
				x := ofBC(k)
				x.Args[i] = ofBC(n)
				wantEverywhere(t, x, strings.Replace(v, []string{"b", "c"}[i], "("+w+")", 1))
			}
		}
	}
	for k, v := range functions() {
		for n, w := range functions() {
			if countOf(n) > 0 {
				wantEverywhere(t, op(n, ofBC(k)), strings.Replace(w, "b", v, 1))
			}
		}
	}
}

func TestNested(t *testing.T) {
	a := col("a")
	wantEverywhere(t, op(api.OpNeg, op(api.OpNeg, op(api.OpNeg, num(5)))), "- (- (- 5))")
	wantEverywhere(t, op(api.OpSub, num(1), op(api.OpNeg, num(1))), "1 - (- 1)")
	wantEverywhere(t, op(api.OpSub, op(api.OpSub, num(1), num(2)), num(3)), "(1 - 2) - 3")
	wantEverywhere(t, op(api.OpNot, op(api.OpNot, a)), "not (not a)")
	wantEverywhere(t, op(api.OpAnd, op(api.OpOr, op(api.OpNot, a), op(api.OpIsNull, a)), op(api.OpEq, a, op(api.OpLength, op(api.OpAdd, a, num(1))))), "((not a) or (a is null)) and (a = length(a + 1))")
	wantEverywhere(t, op(api.OpLength, op(api.OpTypeof, op(api.OpMin, op(api.OpSum, op(api.OpMax, op(api.OpCount)))))), "length(typeof(min(sum(max(count(*))))))")
	wantEverywhere(t, op(api.OpMax, op(api.OpAnd, op(api.OpLt, a, a), op(api.OpConcat, op(api.OpSum, a), str("(")))), "max((a < a) and (sum(a) || '('))")
}

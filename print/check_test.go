package print

import (
	"math"
	"slices"
	"strings"
	"testing"

	"cadastre/api"
)

// part is one of a statement's: how it is given, taken away, and made an empty list that is not nil.
type part struct {
	name  string
	give  func(s *api.Stmt)
	take  func(s *api.Stmt)
	empty func(s *api.Stmt)
}

func parts() []part {
	none := func(*api.Stmt) {}
	return []part{
		{"name", func(s *api.Stmt) { s.Name = "n" }, func(s *api.Stmt) { s.Name = "" }, none},
		{"table", func(s *api.Stmt) { s.Table = "n" }, func(s *api.Stmt) { s.Table = "" }, none},
		{"unique", func(s *api.Stmt) { s.Unique = true }, func(s *api.Stmt) { s.Unique = false }, none},
		{"cols", func(s *api.Stmt) { s.Cols = boxes("a", "b", "c", "d", "e") }, func(s *api.Stmt) { s.Cols = nil }, func(s *api.Stmt) { s.Cols = []api.Column{} }},
		{"names", func(s *api.Stmt) { s.Names = []string{"a"} }, func(s *api.Stmt) { s.Names = nil }, func(s *api.Stmt) { s.Names = make([]string, 0, 4) }},
		{"rows", func(s *api.Stmt) { s.Rows = [][]api.Expr{exprs(num(1))} }, func(s *api.Stmt) { s.Rows = nil }, func(s *api.Stmt) { s.Rows = [][]api.Expr{} }},
		{"sets", func(s *api.Stmt) { s.Sets = []api.Set{{Name: "a", E: num(1)}} }, func(s *api.Stmt) { s.Sets = nil }, func(s *api.Stmt) { s.Sets = []api.Set{} }},
		{"from", func(s *api.Stmt) { s.From = []string{"t"} }, func(s *api.Stmt) { s.From = nil }, func(s *api.Stmt) { s.From = []string{} }},
		{"star", func(s *api.Stmt) { s.Star = true }, func(s *api.Stmt) { s.Star = false }, none},
		{"out", func(s *api.Stmt) { s.Out = exprs(num(1)) }, func(s *api.Stmt) { s.Out = nil }, func(s *api.Stmt) { s.Out = []api.Expr{} }},
		{"where", func(s *api.Stmt) { s.Where = exprs(num(1)) }, func(s *api.Stmt) { s.Where = nil }, func(s *api.Stmt) { s.Where = make([]api.Expr, 0, 1) }},
		{"order", func(s *api.Stmt) { s.Order = []api.Order{{E: num(1)}} }, func(s *api.Stmt) { s.Order = nil }, func(s *api.Stmt) { s.Order = []api.Order{} }},
	}
}

// mayHave tells whether a statement of that kind may have just the parts of the row, by the chapter.
func mayHave(kind int, row string) bool {
	row = strings.Join(strings.Fields(row), " ")
	for _, ends := range []string{"", " where", " order", " where order"} {
		head, ok := strings.CutSuffix(row, ends)
		if !ok {
			continue
		}
		switch {
		case kind == api.StmtSelect && (head == "from star" || head == "from out"):
			return true
		case ends == " where" || ends == "":
			if kind == api.StmtDelete && head == "table" || kind == api.StmtUpdate && head == "table sets" {
				return true
			}
		}
		if ends != "" {
			continue
		}
		switch kind {
		case api.StmtTable, api.StmtVirtual:
			return row == "name cols"
		case api.StmtIndex:
			return row == "name table names" || row == "name table unique names"
		case api.StmtDropTable, api.StmtDropIndex:
			return row == "name"
		case api.StmtInsert:
			return row == "table rows"
		case api.StmtBegin, api.StmtCommit, api.StmtRollback:
			return row == ""
		}
	}
	return false
}

// TestParts: of each kind, every choice of parts that are given: only some may be.
func TestParts(t *testing.T) {
	l := parts()
	fine := 0
	for kind := -2; kind <= api.StmtRollback+3; kind++ {
		for choice := range 1 << len(l) {
			s := api.Stmt{Kind: kind}
			row := ""
			for i, p := range l {
				if choice>>i&1 == 1 {
					p.give(&s)
					row += " " + p.name
				} else if (choice+kind)%3 == 0 {
					p.empty(&s)
				}
			}
			if !mayHave(kind, row) {
				if Check(s) != api.ErrForm {
					t.Fatalf("kind %d with%s", kind, row)
				}
				if text, e := Print(s); text != "" || e != api.ErrForm {
					t.Fatalf("kind %d with%s: %q, %v", kind, row, text, e)
				}
				continue
			}
			fine++
			wantText(t, s, stmtText(s))
		}
	}
	if fine != 1+1+2+1+1+1+2+2+8+3 {
		t.Errorf("%d", fine)
	}
	for _, kind := range []int{math.MinInt, -1, 0, 13, 255, 256 + 10, 1<<32 + 10, math.MaxInt} {
		wantNone(t, api.Stmt{Kind: kind})
	}
}

// withName: wherever a name may stand.
func withName() []form {
	var l []form
	add := func(text string, stmt func(n string) api.Stmt) {
		l = append(l, form{text, func(x api.Expr) api.Stmt { return stmt(x.Name) }})
	}
	add("create table ? (a any)", func(n string) api.Stmt {
		return api.Stmt{Kind: api.StmtTable, Name: n, Cols: []api.Column{{Name: "a", Type: api.TypeAny}}}
	})
	add("create table t (a any, ? text not null)", func(n string) api.Stmt {
		return api.Stmt{Kind: api.StmtTable, Name: "t", Cols: []api.Column{{Name: "a", Type: api.TypeAny}, {Name: n, Type: api.TypeText, NotNull: true}}}
	})
	add("create virtual table ? using rtree (a, b, c, d, e)", func(n string) api.Stmt {
		return api.Stmt{Kind: api.StmtVirtual, Name: n, Cols: boxes("a", "b", "c", "d", "e")}
	})
	for i := range 5 {
		names := strings.Split("abcde", "")
		names[i] = "?"
		add("create virtual table t using rtree ("+strings.Join(names, ", ")+")", func(n string) api.Stmt {
			cols := boxes("a", "b", "c", "d", "e")
			cols[i].Name = n
			return api.Stmt{Kind: api.StmtVirtual, Name: "t", Cols: cols}
		})
	}
	add("create index ? on t (a)", func(n string) api.Stmt {
		return api.Stmt{Kind: api.StmtIndex, Name: n, Table: "t", Names: []string{"a"}}
	})
	add("create index i on ? (a)", func(n string) api.Stmt {
		return api.Stmt{Kind: api.StmtIndex, Name: "i", Table: n, Names: []string{"a"}}
	})
	add("create unique index i on t (a, ?, b)", func(n string) api.Stmt {
		return api.Stmt{Kind: api.StmtIndex, Name: "i", Table: "t", Unique: true, Names: []string{"a", n, "b"}}
	})
	add("drop table ?", func(n string) api.Stmt { return api.Stmt{Kind: api.StmtDropTable, Name: n} })
	add("drop index ?", func(n string) api.Stmt { return api.Stmt{Kind: api.StmtDropIndex, Name: n} })
	add("insert into ? values (1)", func(n string) api.Stmt {
		return api.Stmt{Kind: api.StmtInsert, Table: n, Rows: [][]api.Expr{exprs(num(1))}}
	})
	add("delete from ?", func(n string) api.Stmt { return api.Stmt{Kind: api.StmtDelete, Table: n} })
	add("update ? set a = 1", func(n string) api.Stmt {
		return api.Stmt{Kind: api.StmtUpdate, Table: n, Sets: []api.Set{{Name: "a", E: num(1)}}}
	})
	add("update t set a = 1, ? = 2", func(n string) api.Stmt {
		return api.Stmt{Kind: api.StmtUpdate, Table: "t", Sets: []api.Set{{Name: "a", E: num(1)}, {Name: n, E: num(2)}}}
	})
	add("select * from ?", func(n string) api.Stmt { return api.Stmt{Kind: api.StmtSelect, Star: true, From: []string{n}} })
	add("select * from t, ?", func(n string) api.Stmt {
		return api.Stmt{Kind: api.StmtSelect, Star: true, From: []string{"t", n}}
	})
	return l
}

// TestNames: small letters alone, no key words, of at most MaxName bytes.
func TestNames(t *testing.T) {
	good := strings.Fields("a z _ a0 _9 rowid asc nulls anyone lengths int x is_ " + strings.Repeat("a", api.MaxName) + " " + strings.Repeat("_", api.MaxName))
	bad := strings.Fields("A aB Rowid 1 1a 0_ a.b a- a; (a) 'a' \"a\" ? * \u00e9 a\u00e9 a\x00 \xff any and begin blob by commit count create delete desc drop from index insert integer into is length max min not null on or order rollback rtree select set sum table text typeof unique update using values virtual where NULL Select " + strings.Repeat("a", api.MaxName+1) + " " + strings.Repeat("_", 100000))
	bad = append(bad, "a b", " a", "a ", "a\n", "a--", "a, b")
	for _, f := range withName() {
		for _, n := range good {
			wantText(t, f.stmt(col(n)), strings.ReplaceAll(f.text, "?", n))
		}
		for _, n := range append(bad, "") {
			wantNone(t, f.stmt(api.Expr{Name: n}))
		}
	}
	for _, n := range good {
		wantEverywhere(t, col(n), n)
		wantEverywhere(t, api.Expr{Op: api.OpCol, Table: n, Name: "a"}, n+".a")
		wantEverywhere(t, api.Expr{Op: api.OpCol, Table: "a", Name: n}, "a."+n)
	}
	for _, n := range append(bad, "") {
		wantNowhere(t, api.Expr{Op: api.OpCol, Name: n})
		wantNowhere(t, api.Expr{Op: api.OpCol, Table: "t", Name: n})
	}
	for _, n := range bad {
		wantNowhere(t, api.Expr{Op: api.OpCol, Table: n, Name: "a"})
	}
}

func TestTypes(t *testing.T) {
	for _, n := range []int{math.MinInt, -1, api.TypeNone, api.TypeBlob + 1, 255, 256 + api.TypeAny, 1<<32 + api.TypeAny, math.MaxInt} {
		for _, notNull := range []bool{false, true} {
			c := api.Column{Name: "a", Type: n, NotNull: notNull}
			wantNone(t, api.Stmt{Kind: api.StmtTable, Name: "t", Cols: []api.Column{c}})
			wantNone(t, api.Stmt{Kind: api.StmtTable, Name: "t", Cols: append(boxes("b", "c"), c)})
		}
	}
	for i := range 5 {
		for n := -1; n < 7; n++ {
			for _, notNull := range []bool{false, true} {
				s := api.Stmt{Kind: api.StmtVirtual, Name: "t", Cols: boxes("a", "b", "c", "d", "e")}
				s.Cols[i].Type, s.Cols[i].NotNull = n, notNull
				if n == api.TypeInt && notNull {
					wantText(t, s, "create virtual table t using rtree (a, b, c, d, e)")
				} else {
					wantNone(t, s)
				}
			}
		}
	}
	for n := range 18 {
		if n != 5 {
			wantNone(t, api.Stmt{Kind: api.StmtVirtual, Name: "t", Cols: boxes(slices.Repeat([]string{"a"}, n)...)})
		}
	}
}

// wantNowhere: wherever x stands, alone too, and within others, there may be none.
func wantNowhere(t *testing.T, x api.Expr) {
	t.Helper()
	wantNoExpr(t, x)
	for _, y := range exprs(op(api.OpNeg, x), op(api.OpIsNull, x), op(api.OpLength, x), op(api.OpMax, x), op(api.OpOr, x, num(1)), op(api.OpConcat, num(1), op(api.OpNot, x))) {
		wantNoExpr(t, y)
	}
	for _, f := range withExpr() {
		wantNone(t, f.stmt(x))
		wantNone(t, f.stmt(op(api.OpEq, op(api.OpSum, num(1)), op(api.OpLength, x))))
	}
}

// TestOps: each operation has its own number of Args, and there are no others.
func TestOps(t *testing.T) {
	for _, n := range []int{math.MinInt, -27, -1, api.OpNone, api.OpMax + 1, 28, 255, 256 + api.OpCount, 1<<32 + api.OpCount, math.MaxInt} {
		for k := range 4 {
			wantNowhere(t, op(n, slices.Repeat(exprs(num(1)), k)...))
		}
		wantNowhere(t, api.Expr{Op: n, Name: "a"})
	}
	for n := api.OpNeg; n <= api.OpMax; n++ {
		for k := range 5 {
			x := op(n, slices.Repeat(exprs(num(1)), k)...)
			if k == countOf(n) {
				wantEverywhere(t, x, exprText(x))
			} else {
				wantNowhere(t, x)
			}
		}
	}
	for _, x := range exprs(num(1), null(), str("a"), blob(""), col("a"), col("t.a")) {
		for k := range 4 {
			x.Args = slices.Repeat(exprs(num(1)), k)
			if k == 0 {
				wantEverywhere(t, x, exprText(x))
			} else {
				wantNowhere(t, x)
			}
		}
		x.Args = make([]api.Expr, 0, 3)
		wantEverywhere(t, x, exprText(x))
	}
	wantEverywhere(t, api.Expr{Op: api.OpCount, Args: []api.Expr{}}, "count(*)")
}

// TestValues: what is no value, and integers below 0, are no literals.
func TestValues(t *testing.T) {
	long := strings.Repeat("a", api.MaxStr+1)
	for _, v := range []api.Value{
		{Kind: api.KindNull, Int: 5}, {Kind: api.KindNull, Int: -1}, {Kind: api.KindNull, Str: "a"}, {Kind: api.KindInt, Str: "a"}, {Kind: api.KindInt, Int: 1, Str: "1"},
		{Kind: api.KindInt, Int: -1}, {Kind: api.KindInt, Int: math.MinInt64}, {Kind: api.KindInt, Int: -math.MaxInt64},
		{Kind: api.KindText, Int: 1}, {Kind: api.KindText, Int: -1, Str: "a"}, {Kind: api.KindText, Str: long}, {Kind: api.KindBlob, Int: 1, Str: "a"}, {Kind: api.KindBlob, Str: long}, {Kind: api.KindBlob, Str: strings.Repeat(long, 100)},
		{Kind: -1}, {Kind: 4}, {Kind: 4, Str: "a"}, {Kind: 256}, {Kind: 1<<32 + 1, Int: 1}, {Kind: math.MaxInt}, {Kind: math.MinInt},
	} {
		wantNowhere(t, lit(v))
	}
	wantEverywhere(t, str(long[1:]), "'"+long[1:]+"'")
	wantExprText(t, blob(long[1:]), "x'"+strings.Repeat("61", api.MaxStr)+"'")
}

// TestFields: what an Op does not name is 0 or empty.
func TestFields(t *testing.T) {
	values := []api.Value{num(0).Val, num(7).Val, {Int: 3}, str("").Val, str("a").Val, blob("").Val, {Str: "a"}, {Kind: 9}}
	for n := api.OpLit; n <= api.OpMax; n++ {
		x := ofBC(n)
		if n == api.OpCol {
			x.Name = "a"
		}
		wantEverywhere(t, x, exprText(x))
		for _, v := range values {
			x := x
			x.Val = v
			if n != api.OpLit {
				wantNowhere(t, x)
			}
		}
		if n != api.OpCol {
			named, placed, both := x, x, x
			named.Name, placed.Table, both.Name, both.Table = "a", "a", "a", "t"
			wantNowhere(t, named)
			wantNowhere(t, placed)
			wantNowhere(t, both)
		}
	}
}

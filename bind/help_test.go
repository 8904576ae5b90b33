package bind

import (
	"fmt"
	"reflect"
	"slices"
	"strings"
	"testing"

	"cadastre/api"
	"cadastre/parse"
)

func null() api.Value { return api.Value{} }

func in(n int64) api.Value { return api.Value{Kind: api.KindInt, Int: n} }

func tx(s string) api.Value { return api.Value{Kind: api.KindText, Str: s} }

func bl(s string) api.Value { return api.Value{Kind: api.KindBlob, Str: s} }

func lit(v api.Value) api.Expr { return api.Expr{Op: api.OpLit, Val: v} }

func col(s string) api.Expr {
	if table, name, ok := strings.Cut(s, "."); ok {
		return api.Expr{Op: api.OpCol, Table: table, Name: name}
	}
	return api.Expr{Op: api.OpCol, Name: s}
}

func op(n int, args ...api.Expr) api.Expr { return api.Expr{Op: n, Args: args} }

func exprs(l ...api.Expr) []api.Expr { return l }

func vals(l ...api.Value) []api.Value { return l }

// countOf tells how many Args an operation has.
func countOf(n int) int {
	switch n {
	case api.OpLit, api.OpCol, api.OpCount:
		return 0
	case api.OpNeg, api.OpNot, api.OpIsNull, api.OpNotNull, api.OpLength, api.OpTypeof, api.OpSum, api.OpMin, api.OpMax:
		return 1
	}
	return 2
}

// stmt tells the statement of a text, for want of which there is no test.
func stmt(text string) api.Stmt {
	s, e := parse.Parse(text)
	if e != api.OK {
		panic(text + ": " + e.Error())
	}
	return s
}

// table tells the table that a statement makes, with rows of these values, numbered from 1 on, or, of a Virtual one, by their first.
func table(text string, rows ...[]api.Value) api.Table {
	s := stmt(text)
	t := api.Table{Name: s.Name, Virtual: s.Kind == api.StmtVirtual, Cols: s.Cols}
	for i, l := range rows {
		r := api.Row{ID: int64(i + 1), Vals: l}
		if t.Virtual {
			r.ID = l[0].Int
		}
		t.Rows = append(t.Rows, r)
	}
	return t
}

// indexes tells the indexes that statements make.
func indexes(texts ...string) []api.Index {
	var l []api.Index
	for _, text := range texts {
		s := stmt(text)
		l = append(l, api.Index{Name: s.Name, Table: s.Table, Unique: s.Unique, Cols: s.Names})
	}
	return l
}

func tables(l ...api.Table) []api.Table { return l }

// sample is a base that has some of everything.
func sample() api.Base {
	return api.Base{
		Tables: tables(
			table("create virtual table r using rtree (id, x0, x1, y0, y1)", vals(in(-3), in(0), in(2), in(0), in(2)), vals(in(9), in(5), in(6), in(5), in(6))),
			table("create table t (a integer, b text not null, c)", vals(in(5), tx("x"), null()), vals(null(), tx("y"), in(1)), vals(in(7), tx("x"), bl("z")), vals(null(), tx("y"), tx("q"))),
			table("create table u (a, d blob)", vals(bl("z"), null()), vals(in(1), bl(""))),
			table("create table v (e text)")),
		Indexes: indexes("create unique index i on t (a)", "create index j on t (b, a)", "create index k on v (e)", "create unique index l on u (d, a)"),
	}
}

// shown is short enough to be told.
func shown(x any) string { return fmt.Sprintf("%.600s", fmt.Sprintf("%+v", x)) }

// picture tells all of x: what is changed has another one.
func picture(x any) string { return fmt.Sprintf("%#v", x) }

func sameExpr(a, b api.Expr) bool {
	return a.Op == b.Op && a.Val == b.Val && a.Table == b.Table && a.Name == b.Name && slices.EqualFunc(a.Args, b.Args, sameExpr)
}

func sameExprs(a, b []api.Expr) bool { return slices.EqualFunc(a, b, sameExpr) }

// sameStmt: a nil list and an empty one are one (R2).
func sameStmt(a, b api.Stmt) bool {
	return a.Kind == b.Kind && a.Name == b.Name && a.Table == b.Table && a.Unique == b.Unique && a.Star == b.Star &&
		slices.Equal(a.Cols, b.Cols) && slices.Equal(a.Names, b.Names) && slices.Equal(a.From, b.From) &&
		slices.EqualFunc(a.Rows, b.Rows, sameExprs) && sameExprs(a.Out, b.Out) && sameExprs(a.Where, b.Where) &&
		slices.EqualFunc(a.Sets, b.Sets, func(x, y api.Set) bool { return x.Name == y.Name && sameExpr(x.E, y.E) }) &&
		slices.EqualFunc(a.Order, b.Order, func(x, y api.Order) bool { return x.Desc == y.Desc && sameExpr(x.E, y.E) })
}

// spot is where a list lies, its spare room too.
type spot struct{ from, to uintptr }

// spots tells where all lists within x lie.
func spots(x reflect.Value) []spot {
	var l []spot
	switch x.Kind() {
	case reflect.Struct:
		for i := range x.NumField() {
			l = append(l, spots(x.Field(i))...)
		}
	case reflect.Slice:
		if size := uintptr(x.Cap()) * x.Type().Elem().Size(); size > 0 {
			l = append(l, spot{x.Pointer(), x.Pointer() + size})
		}
		for i := range x.Len() {
			l = append(l, spots(x.Index(i))...)
		}
	}
	return l
}

// wantApart: no list of what was told has memory in common with another one of it, or with one of what was handed in (R2).
func wantApart(t *testing.T, told any, given ...any) {
	t.Helper()
	own := spots(reflect.ValueOf(told))
	others := slices.Clone(own)
	for _, g := range given {
		others = append(others, spots(reflect.ValueOf(g))...)
	}
	for i, a := range own {
		for j, b := range others {
			if i != j && a.from < b.to && b.from < a.to {
				t.Fatalf("%s shares memory", shown(told))
			}
		}
	}
}

// wantErr: Bind tells e, and nothing else, and has changed nothing.
func wantErr(t *testing.T, b api.Base, s api.Stmt, e api.Errno) {
	t.Helper()
	was := picture(b) + picture(s)
	x, f := Bind(b, s)
	if f != e || !reflect.DeepEqual(x, api.Stmt{}) {
		t.Errorf("Bind(%s): %s, %v, want %v", shown(s), shown(x), f, e)
	}
	if picture(b)+picture(s) != was {
		t.Errorf("Bind(%s) changed what was handed in", shown(s))
	}
}

// wantBound: Bind tells w, in new memory, and w again of w (P22.3), and has changed nothing.
func wantBound(t *testing.T, b api.Base, s, w api.Stmt) {
	t.Helper()
	was := picture(b) + picture(s)
	x, e := Bind(b, s)
	if e != api.OK || !sameStmt(x, w) {
		t.Errorf("Bind(%s): %s, %v, want %s", shown(s), shown(x), e, shown(w))
		return
	}
	if picture(b)+picture(s) != was {
		t.Errorf("Bind(%s) changed what was handed in", shown(s))
	}
	wantApart(t, x, b, s)
	was = picture(x)
	y, e := Bind(b, x)
	if e != api.OK || !sameStmt(y, w) || picture(x) != was {
		t.Errorf("Bind(%s): %s, %v", shown(x), shown(y), e)
	}
	wantApart(t, y, b, x)
}

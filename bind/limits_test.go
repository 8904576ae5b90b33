package bind

import (
	"reflect"
	"slices"
	"strings"
	"testing"

	"cadastre/api"
)

// worth is an expression of n expressions, as low as it may be.
func worth(n int) api.Expr {
	switch {
	case n == 1:
		return lit(in(1))
	case n%2 == 0:
		return op(api.OpTypeof, worth(n-1))
	}
	left := (n - 1) / 2
	return op(api.OpAdd, worth(left), worth(n-1-left))
}

// tower is an expression that is so high, around x.
func tower(high int, x api.Expr) api.Expr {
	for range high - 1 {
		x = op(api.OpNot, x)
	}
	return x
}

// wantModel: s, which may be, is told as by the model.
func wantModel(t *testing.T, b api.Base, s api.Stmt) {
	t.Helper()
	m, e := model(b, s)
	if e != api.OK {
		wantErr(t, b, s, e)
		return
	}
	wantBound(t, b, s, m)
}

// TestStarOnceMore: * adds to the expressions of what is bound, and it is bound once more for all that (P22.3).
func TestStarOnceMore(t *testing.T) {
	b := sample()
	for _, from := range [][]string{{"t"}, {"u", "t"}, {"r", "u", "t"}} {
		for _, n := range []int{1, 100, api.MaxNodes - 10, api.MaxNodes - 4, api.MaxNodes - 3, api.MaxNodes - 2, api.MaxNodes - 1, api.MaxNodes} {
			wantModel(t, b, api.Stmt{Kind: api.StmtSelect, Star: true, From: from, Where: exprs(worth(n))})
			if n > 9 {
				where := op(api.OpAnd, op(api.OpEq, col("t.b"), col("rowid")), worth(n-8))
				s := api.Stmt{Kind: api.StmtSelect, Star: true, From: from, Where: exprs(where), Order: []api.Order{{E: op(api.OpNeg, col("c")), Desc: true}, {E: col("t.rowid")}}}
				wantModel(t, b, s)
				s.From, s.Where[0].Args[0].Args[1].Table = append([]string{"v"}, from[:min(2, len(from))]...), "v"
				wantModel(t, b, s)
			}
		}
		wantErr(t, b, api.Stmt{Kind: api.StmtSelect, Star: true, From: from, Where: exprs(worth(api.MaxNodes + 1))}, api.ErrForm)
	}
	for _, spoil := range []func(x *api.Expr){
		func(x *api.Expr) { x.Args = exprs(lit(in(1))) }, func(x *api.Expr) { x.Op = api.OpLit }, func(x *api.Expr) { x.Op = api.OpNot }, func(x *api.Expr) { x.Val = tx("1") }, func(x *api.Expr) { x.Val.Str = "a" }, func(x *api.Expr) { x.Name = "A" }, func(x *api.Expr) { x.Table = "select" },
	} {
		for i := range 3 {
			x, _ := Bind(b, stmt("select * from t"))
			spoil(&x.Out[i])
			wantErr(t, b, x, api.ErrForm)
		}
	}
	for n := api.MaxNodes - 6; n <= api.MaxNodes; n++ {
		for _, out := range [][]api.Expr{exprs(col("a"), col("b"), col("c")), exprs(col("t.a"), col("t.b"), col("t.c")), exprs(col("a"), col("b")), exprs(col("t.c"), col("t.b"), col("t.a")), exprs(col("t.rowid"), col("t.a"), col("t.b"), col("t.c")), exprs(lit(null()))} {
			s := api.Stmt{Kind: api.StmtSelect, Out: out, From: []string{"t"}, Where: exprs(worth(n))}
			if n+len(out) > api.MaxNodes {
				wantErr(t, b, s, api.ErrForm)
			} else {
				wantModel(t, b, s)
			}
		}
	}
	wide := api.Base{Tables: tables(table("create table p (a, b, c, d, e, f, g, h)"), table("create table q (a, b, c, d, e, f, g, h)"), table("create table r (a)"))}
	most := api.Stmt{Kind: api.StmtSelect, Star: true, From: []string{"q", "p"}, Where: exprs(worth(api.MaxNodes))}
	wantModel(t, wide, most)
	most.From = append(most.From, "r")
	wantErr(t, wide, most, api.ErrLimit)
	l, _ := scopeOf(wide, most.From...)
	most.Star, most.Out = false, l.star()
	wantErr(t, wide, most, api.ErrForm)
}

// TestForm: a statement that may not be (21) is told ErrForm ahead of all errors of names.
func TestForm(t *testing.T) {
	b := sample()
	one := lit(in(1))
	from := []string{"no"}
	for _, s := range []api.Stmt{
		{}, {Kind: -1}, {Kind: api.StmtRollback + 1}, {Kind: api.StmtBegin, Name: "t"}, {Kind: api.StmtCommit, Where: exprs(one)},
		{Kind: api.StmtTable, Name: "t"}, {Kind: api.StmtTable, Name: "T", Cols: stmt("create table t (a, a)").Cols}, {Kind: api.StmtTable, Name: "t", Cols: []api.Column{{Name: "a"}, {Name: "a"}}}, {Kind: api.StmtVirtual, Name: "t", Cols: stmt("create table t (a, a)").Cols},
		{Kind: api.StmtTable, Name: "t", Cols: slices.Repeat(stmt("create table t (a)").Cols, api.MaxCols+1)},
		{Kind: api.StmtIndex, Name: "t", Table: "no"}, {Kind: api.StmtIndex, Name: "t", Table: "no", Names: []string{""}}, {Kind: api.StmtIndex, Name: "i", Table: "", Names: []string{"a"}}, {Kind: api.StmtIndex, Name: "i", Table: "no", Names: slices.Repeat([]string{"a"}, api.MaxCols+1)},
		{Kind: api.StmtDropTable}, {Kind: api.StmtDropIndex, Name: "no", Table: "t"}, {Kind: api.StmtDropTable, Name: strings.Repeat("a", api.MaxName+1)},
		{Kind: api.StmtInsert, Table: "no"}, {Kind: api.StmtInsert, Table: "no", Rows: [][]api.Expr{{}}}, {Kind: api.StmtInsert, Table: "no", Rows: [][]api.Expr{exprs(col("a"), col("A"))}}, {Kind: api.StmtInsert, Table: "no", Rows: [][]api.Expr{slices.Repeat(exprs(one), api.MaxCols+1)}}, {Kind: api.StmtInsert, Table: "no", Rows: slices.Repeat([][]api.Expr{exprs(one)}, api.MaxNodes+1)},
		{Kind: api.StmtDelete, Table: "no", Where: exprs(one, one)}, {Kind: api.StmtDelete, Table: "no", Where: exprs(op(api.OpNot))}, {Kind: api.StmtDelete, Table: "no", Where: exprs(op(api.OpCol))}, {Kind: api.StmtDelete, Table: "no", Star: true}, {Kind: api.StmtDelete, Table: "no", Where: exprs(lit(in(-1)))},
		{Kind: api.StmtUpdate, Table: "no"}, {Kind: api.StmtUpdate, Table: "no", Sets: []api.Set{{Name: "a", E: col("z")}, {E: one}}}, {Kind: api.StmtUpdate, Table: "no", Sets: slices.Repeat([]api.Set{{Name: "a", E: one}}, api.MaxCols+1)},
		{Kind: api.StmtSelect, From: from}, {Kind: api.StmtSelect, Star: true}, {Kind: api.StmtSelect, Star: true, Out: exprs(col("z")), From: from}, {Kind: api.StmtSelect, Star: true, From: slices.Repeat(from, api.MaxFrom+1)}, {Kind: api.StmtSelect, Star: true, From: []string{"no", "T"}},
		{Kind: api.StmtSelect, Out: slices.Repeat(exprs(col("z")), api.MaxCols+1), From: from}, {Kind: api.StmtSelect, Star: true, From: from, Order: slices.Repeat([]api.Order{{E: col("z")}}, api.MaxCols+1)},
		{Kind: api.StmtSelect, Star: true, From: from, Where: exprs(tower(api.MaxDeep+1, col("z")))}, {Kind: api.StmtSelect, Star: true, From: from, Where: exprs(worth(api.MaxNodes + 1))}, {Kind: api.StmtSelect, Out: exprs(worth(100)), From: from, Where: exprs(worth(100)), Order: []api.Order{{E: col("z")}}},
	} {
		wantErr(t, b, s, api.ErrForm)
	}
	wantErr(t, b, api.Stmt{Kind: api.StmtSelect, Star: true, From: from, Where: exprs(tower(api.MaxDeep, col("z")))}, api.ErrName)
	wantModel(t, b, api.Stmt{Kind: api.StmtSelect, Out: exprs(worth(100)), From: []string{"t"}, Where: exprs(worth(80)), Order: []api.Order{{E: tower(api.MaxDeep, col("a"))}}})
	wantModel(t, b, api.Stmt{Kind: api.StmtUpdate, Table: "t", Sets: []api.Set{{Name: "c", E: worth(90)}, {Name: "a", E: tower(api.MaxDeep, col("c"))}}, Where: exprs(worth(90))})
	wantModel(t, b, api.Stmt{Kind: api.StmtInsert, Table: "v", Rows: slices.Repeat([][]api.Expr{exprs(one)}, api.MaxNodes)})
	wantModel(t, b, api.Stmt{Kind: api.StmtInsert, Table: "t", Rows: slices.Repeat([][]api.Expr{exprs(one, one, tower(api.MaxDeep, lit(tx("a"))))}, 9)})
}

// TestEmpty: an empty list is as none, in what is told too.
func TestEmpty(t *testing.T) {
	b := sample()
	empty := func(s api.Stmt) api.Stmt {
		for _, l := range []*[]api.Expr{&s.Out, &s.Where} {
			if *l == nil {
				*l = make([]api.Expr, 0, 3)
			}
			for i := range *l {
				if (*l)[i].Args == nil {
					(*l)[i].Args = make([]api.Expr, 0, 1)
				}
			}
		}
		if s.From == nil {
			s.From = []string{}
		}
		if s.Names == nil {
			s.Names = make([]string, 0, 2)
		}
		if s.Cols == nil {
			s.Cols = []api.Column{}
		}
		if s.Rows == nil {
			s.Rows = [][]api.Expr{}
		}
		if s.Sets == nil {
			s.Sets = make([]api.Set, 0, 2)
		}
		if s.Order == nil {
			s.Order = []api.Order{}
		}
		return s
	}
	for _, text := range []string{"begin", "create table n (a)", "create index n on t (a)", "drop table t", "insert into v values (1)", "delete from t", "update t set a = b where c", "select * from t", "select a, 1 from t where b", "select count(*) from t"} {
		x, e := Bind(b, stmt(text))
		y, f := Bind(b, empty(stmt(text)))
		if e != api.OK || f != api.OK || !reflect.DeepEqual(x, y) {
			t.Errorf("%s: %s, %v, %s, %v", text, picture(x), e, picture(y), f)
		}
		wantModel(t, b, empty(stmt(text)))
	}
	with := sample()
	with.Tables[3].Rows = []api.Row{}
	for i := range with.Tables {
		for k := range with.Tables[i].Rows {
			with.Tables[i].Rows[k].Vals = append(make([]api.Value, 0, 20), with.Tables[i].Rows[k].Vals...)
		}
	}
	wantBase(t, "empty rows", with)
}

// roomy tells x with spare room in each list of it, filled with something.
func roomy(x reflect.Value) reflect.Value {
	y := reflect.New(x.Type()).Elem()
	y.Set(x)
	switch x.Kind() {
	case reflect.Struct:
		for i := range x.NumField() {
			y.Field(i).Set(roomy(x.Field(i)))
		}
	case reflect.Slice:
		y = reflect.MakeSlice(x.Type(), x.Len()+3, x.Len()+3)
		for i := range y.Len() {
			if i < x.Len() {
				y.Index(i).Set(roomy(x.Index(i)))
			} else if x.Type().Elem() == reflect.TypeOf(api.Column{}) {
				y.Index(i).Set(reflect.ValueOf(api.Column{Name: "spare"}))
			}
		}
		y = y.Slice(0, x.Len())
	}
	return y
}

// stretched tells x with its lists as long as they have room.
func stretched(x reflect.Value) reflect.Value {
	y := reflect.New(x.Type()).Elem()
	y.Set(x)
	switch x.Kind() {
	case reflect.Struct:
		for i := range x.NumField() {
			y.Field(i).Set(stretched(x.Field(i)))
		}
	case reflect.Slice:
		full := x.Slice(0, x.Cap())
		y = reflect.MakeSlice(x.Type(), x.Cap(), x.Cap())
		for i := range x.Cap() {
			y.Index(i).Set(stretched(full.Index(i)))
		}
	}
	return y
}

// TestSpare: what is handed in is not changed, spare room too, and what is told has none of it.
func TestSpare(t *testing.T) {
	b := roomy(reflect.ValueOf(sample()))
	for _, text := range []string{"begin", "create table n (a, b)", "create virtual table n using rtree (a, b, c, d, e)", "create index n on t (a, b)", "insert into u values (1, 1 + 2), (length('a'), null)", "delete from t where a + 1", "update t set a = b + 1, b = rowid where not c", "select * from t, v where t.a = e order by b, e desc", "select a, length(b || c) from t where a", "select count(*), max(a) from u", "select z from t", "create table t (a, a)"} {
		s := roomy(reflect.ValueOf(stmt(text)))
		was := picture(stretched(b).Interface()) + picture(stretched(s).Interface())
		given, handed := b.Interface().(api.Base), s.Interface().(api.Stmt)
		x, e := Bind(given, handed)
		wantApart(t, x, given, handed)
		y, f := Bind(given, x)
		if e == api.OK && f != api.OK {
			t.Errorf("%s: %v, %v", text, e, f)
		}
		wantApart(t, y, given, handed, x)
		Check(given)
		if picture(stretched(b).Interface())+picture(stretched(s).Interface()) != was {
			t.Errorf("%s: changed", text)
		}
	}
}

// TestEnds: what is as large as it may be handed in, or holds itself, or one list in many places, is gone through no further than need be.
func TestEnds(t *testing.T) {
	b := sample()
	form := func(s api.Stmt) {
		t.Helper()
		if x, e := Bind(b, s); e != api.ErrForm || !reflect.DeepEqual(x, api.Stmt{}) {
			t.Errorf("%v", e)
		}
	}
	wide := col("a")
	for i := range 200 {
		wide = op([]int{api.OpAdd, api.OpAnd, api.OpConcat}[i%3], wide, wide)
		if i > 6 {
			form(api.Stmt{Kind: api.StmtDelete, Table: "t", Where: exprs(wide)})
			form(api.Stmt{Kind: api.StmtSelect, Out: exprs(wide, wide), From: []string{"t"}, Order: []api.Order{{E: wide}}})
			form(api.Stmt{Kind: api.StmtInsert, Table: "t", Rows: [][]api.Expr{exprs(wide)}})
		}
	}
	for _, n := range []int{1, 2, 3, 1000} {
		knot := op(api.OpAdd, make([]api.Expr, n)...)
		for i := range knot.Args {
			knot.Args[i] = knot
		}
		form(api.Stmt{Kind: api.StmtDelete, Table: "t", Where: exprs(knot)})
		form(api.Stmt{Kind: api.StmtUpdate, Table: "t", Sets: []api.Set{{Name: "a", E: knot}}})
		form(api.Stmt{Kind: api.StmtSelect, Out: slices.Repeat(exprs(knot), 1000), From: []string{"t"}})
	}
	form(api.Stmt{Kind: api.StmtDelete, Table: "t", Where: exprs(tower(1<<16, col("a")))})
	many := make([]api.Expr, 1<<20)
	form(api.Stmt{Kind: api.StmtDelete, Table: "t", Where: exprs(op(api.OpNot, many...))})
	form(api.Stmt{Kind: api.StmtInsert, Table: "t", Rows: slices.Repeat([][]api.Expr{many}, 1<<16)})
	form(api.Stmt{Kind: api.StmtInsert, Table: "t", Rows: make([][]api.Expr, 1<<20)})
	form(api.Stmt{Kind: api.StmtSelect, Out: many, From: slices.Repeat([]string{"t"}, 1<<20)})
	form(api.Stmt{Kind: api.StmtSelect, Star: true, From: slices.Repeat([]string{"t"}, 1<<20), Order: make([]api.Order, 1<<20)})
	form(api.Stmt{Kind: api.StmtUpdate, Table: "t", Sets: make([]api.Set, 1<<20)})
	form(api.Stmt{Kind: api.StmtTable, Name: "n", Cols: slices.Repeat(stmt("create table n (a)").Cols, 1<<20)})
	form(api.Stmt{Kind: api.StmtIndex, Name: "n", Table: "t", Names: slices.Repeat([]string{"a"}, 1<<20)})
	for _, b := range []api.Base{
		{Tables: make([]api.Table, 1<<20)}, {Tables: slices.Repeat(tables(table("create table t (a)")), 1<<20)}, {Indexes: make([]api.Index, 1<<20)},
		{Tables: tables(api.Table{Name: "t", Cols: slices.Repeat(stmt("create table n (a)").Cols, 1<<20)})},
		{Tables: tables(api.Table{Name: "t", Cols: stmt("create table n (a)").Cols, Rows: make([]api.Row, 1<<20)})},
		{Tables: tables(table("create table t (a)", slices.Repeat(vals(in(1)), 1<<20)))},
		{Tables: tables(table("create table t (a)")), Indexes: []api.Index{{Name: "i", Table: "t", Cols: slices.Repeat([]string{"a"}, 1<<20)}}},
		{Tables: tables(table("create table t (a)", vals(tx(strings.Repeat("a", 1<<26)))))},
	} {
		if e := Check(b); e != api.ErrForm {
			t.Errorf("%v", e)
		}
	}
}

// TestGreatest: a base with as many tables and indexes as may be, some of them as great as they may be.
func TestGreatest(t *testing.T) {
	var b api.Base
	long := strings.Repeat("a", api.MaxStr)
	var rows [][]api.Value
	for i := range api.MaxRows {
		rows = append(rows, vals(tx(long), bl(long), tx(long), tx(long[100:]), in(int64(i))))
	}
	for i, name := range counted(api.MaxTables) {
		some := rows
		if i%8 < 7 {
			some = rows[:i]
		}
		b.Tables = append(b.Tables, table("create table "+name+" (a, b, c, d, e)", some...))
		b.Indexes = append(b.Indexes, indexes("create unique index i"+name+" on "+name+" (a, b, c, d, e)")...)
	}
	if e := Check(b); e != api.OK {
		t.Errorf("%v", e)
	}
	b.Tables[15].Rows[api.MaxRows-1].Vals = rows[0]
	if e := Check(b); e != api.ErrForm {
		t.Errorf("%v", e)
	}
}

package bind

import (
	"math"
	"math/rand"
	"slices"
	"strings"
	"testing"

	"cadastre/api"
	"cadastre/print"
)

// columns tells all columns within l, in order, each as table.name=place.
func columns(l []api.Expr) string {
	var s []string
	for _, e := range flat(l) {
		if e.Op == api.OpCol {
			s = append(s, e.Table+"."+e.Name+"="+digits(e.Val))
		}
	}
	return strings.Join(s, " ")
}

func digits(v api.Value) string {
	if v.Kind != api.KindInt || v.Int < 0 || v.Int > 99 {
		return shown(v)
	}
	return strings.TrimPrefix(string([]byte{'0' + byte(v.Int/10), '0' + byte(v.Int%10)}), "0")
}

// roots tells all expressions of s that are no Args.
func roots(s api.Stmt) []api.Expr {
	l := slices.Concat(s.Rows...)
	for _, x := range s.Sets {
		l = append(l, x.E)
	}
	l = slices.Concat(l, s.Out, s.Where)
	for _, o := range s.Order {
		l = append(l, o.E)
	}
	return l
}

// wantPlaces: the text's statement is bound, its columns to these places, and is what the model tells.
func wantPlaces(t *testing.T, b api.Base, text, w string) {
	t.Helper()
	s := stmt(text)
	m, e := model(b, s)
	if e != api.OK {
		t.Fatalf("%s: %v", text, e)
	}
	wantBound(t, b, s, m)
	if x, _ := Bind(b, s); columns(roots(x)) != w {
		t.Errorf("%s: %s, want %s", text, columns(roots(x)), w)
	}
}

// wantTexts: all texts' statements, separated by ;, are told e.
func wantTexts(t *testing.T, b api.Base, e api.Errno, texts string) {
	t.Helper()
	for _, text := range strings.Split(texts, ";") {
		s := stmt(text)
		m, f := model(b, s)
		if f != e {
			t.Errorf("%s: the model tells %v, want %v", text, f, e)
		}
		if e != api.OK {
			wantErr(t, b, s, e)
			continue
		}
		wantBound(t, b, s, m)
	}
}

// TestExample: the chapter's.
func TestExample(t *testing.T) {
	wantPlaces(t, api.Base{Tables: tables(table("create table t (x, a)"))}, "select a from t", "t.a=2")
}

// TestPlaces: of sample: r has id, x0, x1, y0, y1; t has a, b, c; u has a, d; v has e.
func TestPlaces(t *testing.T) {
	b := sample()
	for _, c := range [][2]string{
		{"select rowid, a, b, c from t", "t.rowid=0 t.a=1 t.b=2 t.c=3"},
		{"select t.rowid, t.a, t.b, t.c from t", "t.rowid=0 t.a=1 t.b=2 t.c=3"},
		{"select * from t", "t.a=1 t.b=2 t.c=3"},
		{"select * from t, u", "t.a=1 t.b=2 t.c=3 u.a=5 u.d=6"},
		{"select * from u, t", "u.a=1 u.d=2 t.a=4 t.b=5 t.c=6"},
		{"select * from v, r, u", "v.e=1 r.id=3 r.x0=4 r.x1=5 r.y0=6 r.y1=7 u.a=9 u.d=10"},
		{"select * from r, t, u where u.a and y1 or t.a order by rowid", ""},
		{"select * from r, t, u where u.a and y1 or t.a order by u.rowid, b desc", "r.id=1 r.x0=2 r.x1=3 r.y0=4 r.y1=5 t.a=7 t.b=8 t.c=9 u.a=11 u.d=12 u.a=11 r.y1=5 t.a=7 u.rowid=10 t.b=8"},
		{"select b, u.a, e, t.a, v.rowid from v, t, u", "t.b=4 u.a=7 v.e=1 t.a=3 v.rowid=0"},
		{"select e from v, t, u", "v.e=1"}, {"select e from t, v, u", "v.e=5"}, {"select e from u, t, v", "v.e=8"},
		{"select u.rowid, t.rowid, v.rowid from u, t, v", "u.rowid=0 t.rowid=3 v.rowid=7"},
		{"select d || d from t, u where not (b is null) order by -length(c), typeof(c + u.a)", "u.d=6 u.d=6 t.b=2 t.c=3 t.c=3 u.a=5"},
		{"select count(*), sum(a + rowid), min(b), max(t.c) from t where a", "t.a=1 t.rowid=0 t.b=2 t.c=3 t.a=1"},
		{"select 1, 'a' from t order by 2", ""}, {"select max(1) from r where x0 < x1", "r.x0=2 r.x1=3"},
		{"delete from t", ""}, {"delete from t where b = 'b' and rowid < t.a", "t.b=2 t.rowid=0 t.a=1"}, {"delete from r where id = rowid", "r.id=1 r.rowid=0"},
		{"update t set a = b, b = a where c", "t.b=2 t.a=1 t.c=3"}, {"update u set d = rowid, a = u.rowid || d", "u.rowid=0 u.rowid=0 u.d=2"}, {"update r set id = id + 1, x1 = 5 where r.y1 > 1", "r.id=1 r.y1=5"},
		{"insert into t values (1, 'a', null), (- 1, length('a'), 1 + 2)", ""},
	} {
		if strings.HasSuffix(c[0], "order by rowid") {
			wantTexts(t, b, api.ErrName, c[0])
			continue
		}
		wantPlaces(t, b, c[0], c[1])
	}
}

// TestSame: what has no columns is told as it is.
func TestSame(t *testing.T) {
	b := sample()
	for _, text := range []string{"begin", "commit", "rollback", "create table n (a integer not null, t, b blob)", "create virtual table n using rtree (a, b, c, d, e)", "create unique index n on t (c, a)", "create index n on v (e)", "drop table r", "drop index i", "insert into v values (1), ('a'), (null)", "delete from r", "update v set e = 1 where x'00'"} {
		wantBound(t, b, stmt(text), stmt(text))
	}
	if x, e := Bind(b, stmt("select * from t")); e != api.OK || x.Star || len(x.Out) != 3 {
		t.Errorf("%s, %v", shown(x), e)
	}
}

// TestDefinitions: the errors of what makes and drops tables and indexes, and which goes ahead of which.
func TestDefinitions(t *testing.T) {
	b := sample()
	wantTexts(t, b, api.OK, "create table n (a);create table a (a);create table rowid (a);create table x0 (x0);create virtual table rowid using rtree (a,b,c,d,e);create index n on t (a);create index a on t (a);create index rowid on u (d,a);create index n on t (c,b,a);drop table r;drop table t;drop table v;drop index i;drop index l")
	wantTexts(t, b, api.ErrTaken, "create table t (a);create table r (a);create table i (a);create table l (a, b);create virtual table t using rtree (a,b,c,d,e);create virtual table r using rtree (a,b,c,d,e);create virtual table j using rtree (a,b,c,d,e);create table n (a, a);create table n (a, b, c, a);create table n (rowid);create table n (a, rowid);create table n (rowid, rowid);create virtual table n using rtree (a,b,c,d,a);create virtual table n using rtree (rowid,b,c,d,e);create virtual table n using rtree (a,b,c,d,rowid)")
	wantTexts(t, b, api.ErrTaken, "create index t on t (a);create index r on t (a);create index i on t (a);create index l on v (e);create index t on no (a);create index i on r (id);create index j on t (z);create index n on t (a, a);create unique index n on t (c, a, c)")
	wantTexts(t, b, api.ErrName, "create index n on no (a);create index n on i (a);create index n on n (a);create index n on no (a, a);create index n on t (d);create index n on t (rowid);create index n on t (a, a, z);create index n on t (z, a, a);create index n on v (e, rowid, e)")
	wantTexts(t, b, api.ErrType, "create index n on r (id);create unique index n on r (x0, z);create index n on r (id, id)")
	wantTexts(t, b, api.ErrName, "drop table no;drop table i;drop table rowid;drop index no;drop index t;drop index r;drop index a")
	full := api.Base{}
	for _, name := range counted(16) {
		full.Tables = append(full.Tables, table("create table "+name+" (a, b)"))
		full.Indexes = append(full.Indexes, indexes("create index i"+name+" on naa (a)")...)
	}
	wantTexts(t, full, api.ErrLimit, "create table n (a);create virtual table n using rtree (a,b,c,d,e);create index n on naa (a);create index n on nap (b, a)")
	wantTexts(t, full, api.ErrTaken, "create table naa (a);create table inap (a);create table n (a, a);create table n (rowid);create virtual table n using rtree (a,b,c,d,a);create index naa on nab (a);create index inap on no (a);create index n on naa (b, b)")
	wantTexts(t, full, api.ErrName, "create index n on no (a);create index n on naa (c);drop table n;drop index n")
	wantTexts(t, full, api.OK, "drop table nap;drop index inaa")
	full.Tables, full.Indexes = full.Tables[:15], full.Indexes[1:]
	wantTexts(t, full, api.OK, "create table n (a);create virtual table n using rtree (a,b,c,d,e);create index n on naa (a)")
	full.Tables = append(full.Tables, table("create virtual table nap using rtree (a,b,c,d,e)"))
	full.Indexes = append(full.Indexes, indexes("create index iz on naa (b)")...)
	wantTexts(t, full, api.ErrType, "create index n on nap (a)")
}

// TestChanges: the errors of insert, delete and update, and which goes ahead of which.
func TestChanges(t *testing.T) {
	b := sample()
	wantTexts(t, b, api.OK, "insert into t values (1, 2, 3);insert into v values ('a'), (null), (typeof(1));insert into r values (1, 2, 3, 4, 5)")
	wantTexts(t, b, api.ErrName, "insert into no values (1);insert into i values (1);insert into no values (a), (1, count(*));insert into t values (1, 2, a);insert into t values (b, 2, 3);insert into t values (1, 2, 3), (1, 2, rowid);insert into t values (1, 2, - length(t.a));insert into t values (1, 2, z);insert into t values (count(*), 2, a);insert into t values (1, 2, sum(a));insert into t values (count(*), 2, 3), (1, 2, a);insert into t values (1, 2, 1 + (2 + (3 + v.e)))")
	wantTexts(t, b, api.ErrForm, "insert into t values (1);insert into t values (1, 2);insert into t values (1, 2, 3, 4);insert into t values (1, 2, 3), (1);insert into t values (a, 2, 3), (1, 2);insert into t values (a), (1, 2, 3);insert into v values (count(*), a);insert into v values (count(*));insert into v values (1), (1 + max(2));insert into v values (length(min(1)));insert into v values (sum(1))")
	wantTexts(t, b, api.OK, "delete from v;update t set c = 1;update t set c = b, a = c, b = a;delete from u where d = 1 or u.rowid")
	wantTexts(t, b, api.ErrName, "delete from no;delete from i;delete from no where count(*);delete from t where d;delete from t where u.a;delete from t where no.a;delete from t where i.a;delete from t where t.d;delete from t where a = z and count(*);delete from t where max(z)")
	wantTexts(t, b, api.ErrForm, "delete from t where count(*);delete from t where sum(a);delete from t where a = (1 + min(b));delete from t where count(*) = z;delete from t where max(count(*)) + z")
	wantTexts(t, b, api.ErrName, "update no set a = 1;update i set a = 1;update t set rowid = 1;update t set d = 1;update t set a = 1, b = 2, z = 3;update t set z = 1, a = 2, a = 3;update t set a = count(*), z = 1;update t set a = z;update t set a = 1, b = u.a;update t set a = z, b = count(*);update t set a = 1 where z;update t set a = z where count(*);update t set a = sum(z)")
	wantTexts(t, b, api.ErrTaken, "update t set a = 1, a = 1;update t set a = 1, b = 2, a = 3;update t set a = 1, a = 2, z = 3;update t set a = z, a = count(*);update t set c = 1, b = 2, c = 3 where z")
	wantTexts(t, b, api.ErrForm, "update t set a = count(*);update t set a = 1, b = 1 + sum(a);update t set a = count(*), b = z;update t set a = 1 where max(a);update t set a = min(a) where z")
}

// TestSelects: the errors of select, and which goes ahead of which.
func TestSelects(t *testing.T) {
	b := sample()
	wantTexts(t, b, api.OK, "select * from t, u, v;select a from t, v;select t.a, u.a from t, u;select id from r, t, u;select count(*) from t;select sum(a), count(*), max(b || c), min(rowid) from t where a = 1;select count(*), count(*) from r, t, u;select max(a) from t where b")
	wantTexts(t, b, api.ErrName, "select * from no;select * from i;select * from t, no;select * from t, no, t;select z from no;select count(*) + a from t, no;select a from t, u;select rowid from t, u;select rowid from u, v, t;select z from t;select t.z from t;select u.a from t;select i.a from t;select rowid.rowid from t;select t.a, no.a from t;select id from t;select r.id from t, u;select e, a from v, t, u;select a + z from t;select z + count(*) from t;select max(z) from t;select max(z), a from t;select z, count(*) from t;select * from t where z;select * from t order by a, z;select * from t where a and (b or not z) order by count(*);select a from t order by z, max(a);select t.d, a from t, u;select sum(min(z)) from t")
	wantTexts(t, b, api.ErrTaken, "select * from t, t;select z from t, u, t;select count(*), a from u, t, u;select * from t, t, no;select a from v, v")
	wantTexts(t, b, api.ErrForm, "select count(*), a from t;select a, count(*) from t;select count(*), z from t;select count(*) + 1 from t;select 1 + count(*) from t;select count(*) + z from t;select length(max(a)) from t;select - sum(a) from t;select sum(max(a)) from t;select max(count(*)) from t;select count(*), sum(count(*)) from t;select count(*) from t order by 1;select count(*) from t order by z;select max(a), min(b) from t order by a;select a from t where count(*);select count(*) from t where count(*);select count(*) from t where max(a) = z;select * from t where min(a);select * from t order by count(*);select a from t order by a, 1 + sum(b);select 1, count(*) from t;select count(*), 1, count(*) from t;select max(count(*) + z) from t")
	many := api.Base{Tables: tables(table("create table p (a, b, c, d, e, f, g, h)"), table("create table q (a, b, c, d, e, f, g, i)"), table("create table r (j)"), table("create table s (a, b, c, d, e, f, g, h, i, j, k, l, m, n, o, p)"))}
	wantTexts(t, many, api.OK, "select * from p, q;select * from s;select * from p, r;select * from q, r order by j;select h from p, q, r where i = 1 and j = 2;select p from s, p, q")
	wantTexts(t, many, api.ErrLimit, "select * from p, q, r;select * from s, r;select * from r, s;select * from s, p, q;select * from p, q, r where j = 1 order by h, i")
	wantTexts(t, many, api.ErrName, "select * from p, q, r where z;select * from s, r order by j;select * from s, p, no;select * from p, q, r where r.a")
	wantTexts(t, many, api.ErrForm, "select * from p, q, r where count(*);select * from s, r order by max(r.j)")
	wantTexts(t, many, api.ErrTaken, "select * from p, q, p;select * from s, s")
}

// TestAggregatesAround: an aggregate may be Out alone, of all operations around it and all of it around.
func TestAggregatesAround(t *testing.T) {
	b := sample()
	for n := api.OpCount; n <= api.OpMax; n++ {
		x := op(n, exprs(col("b"))[:countOf(n)]...)
		wantErr(t, b, api.Stmt{Kind: api.StmtInsert, Table: "v", Rows: [][]api.Expr{exprs(op(n, exprs(lit(in(1)))[:countOf(n)]...))}}, api.ErrForm)
		s := api.Stmt{Kind: api.StmtSelect, From: []string{"t"}, Out: exprs(x, op(api.OpCount), x)}
		m, _ := model(b, s)
		wantBound(t, b, s, m)
		for k := api.OpNeg; k <= api.OpMax; k++ {
			for i := range countOf(k) {
				y := op(k, exprs(col("a"), col("b"))[:countOf(k)]...)
				y.Args[i] = x
				for _, s := range []api.Stmt{
					{Kind: api.StmtSelect, From: []string{"t"}, Out: exprs(y)}, {Kind: api.StmtSelect, From: []string{"t"}, Out: exprs(op(api.OpCount), y)},
					{Kind: api.StmtSelect, From: []string{"t"}, Star: true, Where: exprs(y)}, {Kind: api.StmtSelect, From: []string{"t"}, Star: true, Order: []api.Order{{E: y}}},
					{Kind: api.StmtDelete, Table: "t", Where: exprs(y)}, {Kind: api.StmtUpdate, Table: "t", Sets: []api.Set{{Name: "a", E: y}}},
				} {
					wantErr(t, b, s, api.ErrForm)
				}
			}
		}
	}
}

// withVals tells s with other values in all its columns.
func withVals(s api.Stmt, v func() api.Value) api.Stmt {
	var list func(l []api.Expr) []api.Expr
	list = func(l []api.Expr) []api.Expr {
		var all []api.Expr
		for _, e := range l {
			if e.Op == api.OpCol {
				e.Val = v()
			}
			e.Args = list(e.Args)
			all = append(all, e)
		}
		return all
	}
	rows, sets, order := s.Rows, s.Sets, s.Order
	s.Rows, s.Sets, s.Order = nil, nil, nil
	for _, row := range rows {
		s.Rows = append(s.Rows, list(row))
	}
	for _, x := range sets {
		s.Sets = append(s.Sets, api.Set{Name: x.Name, E: list(exprs(x.E))[0]})
	}
	for _, o := range order {
		s.Order = append(s.Order, api.Order{E: list(exprs(o.E))[0], Desc: o.Desc})
	}
	s.Out, s.Where = list(s.Out), list(s.Where)
	return s
}

// TestVals: the Val of a column may be any integer, and nothing else but null.
func TestVals(t *testing.T) {
	b := sample()
	for _, text := range []string{"select a, t.b, length(c) from t where rowid + 1 order by a desc", "delete from t where t.a", "update u set a = d, d = 1 + a where rowid"} {
		m, _ := model(b, stmt(text))
		for _, n := range []int64{0, 1, 2, -1, 99, math.MinInt64, math.MaxInt64} {
			wantBound(t, b, withVals(stmt(text), func() api.Value { return in(n) }), m)
		}
		for _, v := range []api.Value{tx(""), tx("1"), bl(""), bl("a"), {Int: 1}, {Str: "a"}, {Kind: api.KindInt, Str: "a"}, {Kind: api.KindInt, Int: 1, Str: "1"}, {Kind: 4}, {Kind: -1}} {
			wantErr(t, b, withVals(stmt(text), func() api.Value { return v }), api.ErrForm)
		}
	}
	wantErr(t, b, withVals(stmt("insert into v values (a)"), func() api.Value { return in(1) }), api.ErrName)
	wantErr(t, b, withVals(stmt("select z from t"), func() api.Value { return in(1) }), api.ErrName)
	for n := api.OpLit + 1; n <= api.OpMax; n++ {
		x := op(n, exprs(lit(in(1)), lit(in(1)))[:countOf(n)]...)
		if x.Val = in(1); n != api.OpCol {
			wantErr(t, b, api.Stmt{Kind: api.StmtSelect, Out: exprs(x), From: []string{"t"}}, api.ErrForm)
			wantErr(t, b, api.Stmt{Kind: api.StmtDelete, Table: "t", Where: exprs(op(api.OpNot, x))}, api.ErrForm)
		}
	}
}

// TestRandom: whatever base and statement, Bind tells what the model does (and so again of what is bound); with any integers in columns it tells the same.
func TestRandom(t *testing.T) {
	r := some{rand.New(rand.NewSource(22))}
	told := map[api.Errno]int{}
	kinds := map[int]int{}
	for n := 0; n < 20000 && !t.Failed(); n++ {
		b, s := r.base(), r.stmt()
		if print.Check(s) != api.OK {
			t.Fatal(shown(s))
		}
		m, e := model(b, s)
		if !baseMayBe(b) {
			e = api.ErrForm
		}
		other := withVals(s, func() api.Value { return in(r.Int63n(20) - 5) })
		told[e]++
		if e != api.OK {
			wantErr(t, b, s, e)
			wantErr(t, b, other, e)
			continue
		}
		kinds[s.Kind]++
		wantBound(t, b, s, m)
		wantBound(t, b, other, m)
	}
	if len(kinds) != api.StmtRollback || told[api.OK] < 4000 || told[api.ErrName] < 2000 || told[api.ErrTaken] < 500 || told[api.ErrType] < 10 || told[api.ErrForm] < 1000 || kinds[api.StmtSelect] < 500 {
		t.Errorf("%v, %v", told, kinds)
	}
}

// TestRandomBases: whatever base, spoilt or not, Check tells what the model does.
func TestRandomBases(t *testing.T) {
	r := some{rand.New(rand.NewSource(221))}
	told := map[bool]int{}
	for n := 0; n < 30000 && !t.Failed(); n++ {
		b := r.base()
		for range r.Intn(3) {
			r.spoil(&b)
		}
		was := picture(b)
		ok := baseMayBe(b)
		told[ok]++
		e := Check(b)
		if (e == api.OK) != ok || e != api.OK && e != api.ErrForm || picture(b) != was {
			t.Errorf("Check(%s): %v", shown(b), e)
		}
	}
	if told[false] < 5000 || told[true] < 5000 {
		t.Errorf("%v", told)
	}
}

package bind

import (
	"math"
	"strconv"
	"strings"
	"testing"

	"cadastre/api"
	"cadastre/record"
)

// wantBase: b may be.
func wantBase(t *testing.T, what string, b api.Base) {
	t.Helper()
	was := picture(b)
	if e := Check(b); e != api.OK {
		t.Errorf("%s: Check: %v", what, e)
	}
	if _, e := Bind(b, api.Stmt{Kind: api.StmtBegin}); e != api.OK {
		t.Errorf("%s: Bind: %v", what, e)
	}
	if picture(b) != was {
		t.Errorf("%s: changed", what)
	}
}

// wantNoBase: b may not be, and nothing is bound over it.
func wantNoBase(t *testing.T, what string, b api.Base) {
	t.Helper()
	if e := Check(b); e != api.ErrForm {
		t.Errorf("%s: Check: %v", what, e)
	}
	for _, s := range []api.Stmt{{}, {Kind: api.StmtBegin}, stmt("select * from nowhere"), stmt("create table t (a)"), stmt("drop index nowhere")} {
		wantErr(t, b, s, api.ErrForm)
	}
}

// edit is a change of sample.
type edit struct {
	what string
	do   func(b *api.Base)
}

func run(t *testing.T, want func(*testing.T, string, api.Base), l []edit) {
	t.Helper()
	for _, c := range l {
		b := sample()
		c.do(&b)
		want(t, c.what, b)
	}
}

// TestBases: of sample r is Virtual, then come t, u and v.
func TestBases(t *testing.T) {
	wantBase(t, "none", api.Base{})
	wantBase(t, "empty", api.Base{Tables: []api.Table{}, Indexes: []api.Index{}})
	wantBase(t, "sample", sample())
	run(t, wantBase, []edit{
		{"no index", func(b *api.Base) { b.Indexes = nil }},
		{"no rows", func(b *api.Base) { b.Tables[0].Rows, b.Tables[1].Rows = nil, []api.Row{} }},
		{"a name like a column's", func(b *api.Base) { b.Tables[3].Name, b.Indexes[2].Table = "x0", "x0" }},
		{"a column like its table", func(b *api.Base) { b.Tables[3].Cols[0].Name = "v"; b.Indexes[2].Cols[0] = "v" }},
		{"a table named rowid", func(b *api.Base) { b.Tables[0].Name = "rowid" }},
		{"an index named rowid", func(b *api.Base) { b.Indexes[3].Name = "rowid" }},
		{"an index named like a column", func(b *api.Base) { b.Indexes[0].Name = "a" }},
		{"the least and the greatest ID", func(b *api.Base) {
			b.Tables[1].Rows[0].ID, b.Tables[1].Rows[3].ID = math.MinInt64, math.MaxInt64
		}},
		{"IDs below 1", func(b *api.Base) { b.Tables[2].Rows[0].ID, b.Tables[2].Rows[1].ID = -1, 0 }},
		{"two indexes of the same columns", func(b *api.Base) { b.Indexes[0].Cols, b.Indexes[0].Unique = []string{"b", "a"}, false }},
	})
}

func TestTablesWrong(t *testing.T) {
	run(t, wantNoBase, []edit{
		{"falling names", func(b *api.Base) { b.Tables[1], b.Tables[2] = b.Tables[2], b.Tables[1] }},
		{"a name falling at the end", func(b *api.Base) { b.Tables[3].Name = "a" }},
		{"two alike", func(b *api.Base) { b.Tables[2].Name = "t" }},
		{"one twice", func(b *api.Base) { b.Tables = append(b.Tables, b.Tables[3]) }},
		{"no columns", func(b *api.Base) { b.Tables[2].Cols, b.Tables[2].Rows, b.Indexes = nil, nil, b.Indexes[:3] }},
		{"a table without anything", func(b *api.Base) { b.Tables = append(b.Tables, api.Table{Name: "w"}) }},
		{"a column rowid", func(b *api.Base) { b.Tables[2].Cols[0].Name = "rowid"; b.Indexes = b.Indexes[:3] }},
		{"the last column rowid", func(b *api.Base) { b.Tables[1].Cols[2].Name = "rowid" }},
		{"a box' column rowid", func(b *api.Base) { b.Tables[0].Cols[0].Name = "rowid" }},
		{"columns alike", func(b *api.Base) { b.Tables[1].Cols[2].Name = "a" }},
		{"a box' columns alike", func(b *api.Base) { b.Tables[0].Cols[4].Name = "id" }},
		{"a row too short", func(b *api.Base) { b.Tables[1].Rows[3].Vals = b.Tables[1].Rows[3].Vals[:2] }},
		{"a row without values", func(b *api.Base) { b.Tables[3].Rows = []api.Row{{ID: 1}} }},
		{"a row too long", func(b *api.Base) { b.Tables[2].Rows[0].Vals = append(b.Tables[2].Rows[0].Vals, null()) }},
		{"IDs alike", func(b *api.Base) { b.Tables[1].Rows[1].ID = 1 }},
		{"IDs falling", func(b *api.Base) { b.Tables[1].Rows[3].ID = -4 }},
		{"IDs falling round", func(b *api.Base) { b.Tables[2].Rows[0].ID, b.Tables[2].Rows[1].ID = math.MaxInt64, math.MinInt64 }},
		{"null in NotNull", func(b *api.Base) { b.Tables[1].Rows[3].Vals[1] = null() }},
		{"one kind in place of another", func(b *api.Base) { b.Tables[1].Rows[2].Vals[0] = tx("7") }},
		{"no value", func(b *api.Base) { b.Tables[2].Rows[0].Vals[0] = api.Value{Kind: 9} }},
	})
}

func TestNamesWrong(t *testing.T) {
	for _, n := range []string{"", "A", "aB", "1a", "a b", "a.b", "select", "null", "\u00e9", "a\x00", strings.Repeat("a", api.MaxName+1)} {
		one := api.Base{Tables: tables(table("create table t (a)"))}
		one.Tables[0].Name = n
		wantNoBase(t, "a table's name "+n, one)
		one = api.Base{Tables: tables(table("create table t (a, b)"))}
		one.Tables[0].Cols[1].Name = n
		wantNoBase(t, "a column's name "+n, one)
		one = api.Base{Tables: tables(table("create virtual table t using rtree (a, b, c, d, e)"))}
		one.Tables[0].Cols[2].Name = n
		wantNoBase(t, "a box' column's name "+n, one)
		one = api.Base{Tables: tables(table("create table t (a)")), Indexes: indexes("create index i on t (a)")}
		one.Indexes[0].Name = n
		wantNoBase(t, "an index' name "+n, one)
	}
	for _, n := range []string{"_", "a1", "z_9", "nulls", strings.Repeat("a", api.MaxName)} {
		one := api.Base{Tables: tables(table("create table t (a, b)")), Indexes: indexes("create index i on t (a)")}
		one.Tables[0].Name, one.Indexes[0].Table, one.Tables[0].Cols[0].Name, one.Indexes[0].Cols[0] = n, n, n, n
		wantBase(t, "the name "+n, one)
		one = api.Base{Tables: tables(table("create table t (a, b)")), Indexes: indexes("create index i on t (a)")}
		one.Indexes[0].Name = n
		wantBase(t, "an index' name "+n, one)
	}
}

// TestKinds: each kind of value in a column of each type.
func TestKinds(t *testing.T) {
	types := map[string]string{"any": "nitb", "integer": "ni", "text": "nt", "blob": "nb"}
	values := map[string]api.Value{"n": null(), "i": in(5), "t": tx("5"), "b": bl("5")}
	for word, fit := range types {
		for kind, v := range values {
			for _, text := range []string{"create table t (a " + word + ", b)", "create table t (b, a " + word + " not null)"} {
				l := vals(v, null())
				ok := strings.Contains(fit, kind)
				if strings.Contains(text, "not") {
					l[0], l[1] = l[1], l[0]
					ok = ok && kind != "n"
				}
				b := api.Base{Tables: tables(table(text, l))}
				if ok {
					wantBase(t, text+" with "+kind, b)
				} else {
					wantNoBase(t, text+" with "+kind, b)
				}
			}
		}
		for _, v := range []api.Value{{Int: 1}, {Str: "a"}, {Kind: api.KindInt, Str: "a"}, {Kind: api.KindText, Int: 1}, {Kind: api.KindBlob, Int: -1}, {Kind: -1}, {Kind: 4}, tx(strings.Repeat("a", api.MaxStr+1)), bl(strings.Repeat("a", api.MaxStr+1))} {
			wantNoBase(t, "no value in "+word, api.Base{Tables: tables(table("create table t (a "+word+")", vals(v)))})
		}
	}
	wantBase(t, "long", api.Base{Tables: tables(table("create table t (a text, b blob)", vals(tx(strings.Repeat("a", api.MaxStr)), bl(strings.Repeat("a", api.MaxStr)))))})
	for _, n := range []int{math.MinInt, -1, api.TypeNone, api.TypeBlob + 1, 256 + api.TypeAny, math.MaxInt} {
		for _, rows := range [][][]api.Value{nil, {vals(null())}, {vals(in(1))}} {
			b := api.Base{Tables: tables(table("create table t (a)", rows...))}
			b.Tables[0].Cols[0].Type = n
			wantNoBase(t, "type "+strconv.Itoa(n), b)
		}
	}
}

// counted tells n names, rising.
func counted(n int) []string {
	var l []string
	for i := range n {
		l = append(l, "n"+string(rune('a'+i/26))+string(rune('a'+i%26)))
	}
	return l
}

// TestCounts: how many tables, indexes, columns and rows there may be.
func TestCounts(t *testing.T) {
	for _, n := range []int{1, 2, 15, 16, 17, 18, 300} {
		want := wantBase
		if n > 16 {
			want = wantNoBase
		}
		var b, c, d, f api.Base
		b.Tables = tables(table("create table z (a)"))
		d.Tables = tables(api.Table{Name: "z"})
		f.Tables, f.Indexes = d.Tables[:1:1], indexes("create index i on z (a)")
		f.Indexes[0].Cols = nil
		d.Tables[0].Rows = []api.Row{{ID: 1}}
		for _, name := range counted(n) {
			b.Indexes = append(b.Indexes, api.Index{Name: name, Table: "z", Cols: []string{"a"}})
			c.Tables = append(c.Tables, table("create table "+name+" (a)"))
			d.Tables[0].Cols = append(d.Tables[0].Cols, api.Column{Name: name, Type: api.TypeAny})
			d.Tables[0].Rows[0].Vals = append(d.Tables[0].Rows[0].Vals, in(7))
			f.Indexes[0].Cols = append(f.Indexes[0].Cols, name)
		}
		want(t, strconv.Itoa(n)+" indexes", b)
		want(t, strconv.Itoa(n)+" tables", c)
		want(t, strconv.Itoa(n)+" columns", d)
		want(t, strconv.Itoa(n)+" columns of an index", f)
	}
	for _, n := range []int{api.MaxRows - 1, api.MaxRows, api.MaxRows + 1, 3 * api.MaxRows} {
		var rows, boxes [][]api.Value
		for i := range n {
			rows = append(rows, vals(in(int64(-i))))
			boxes = append(boxes, vals(in(int64(i)), in(0), in(0), in(0), in(0)))
		}
		for _, a := range tables(table("create table t (a)", rows...), table("create virtual table t using rtree (a, b, c, d, e)", boxes...)) {
			b := api.Base{Tables: tables(a)}
			if !a.Virtual {
				b.Indexes = indexes("create unique index i on t (a)")
			}
			if n > api.MaxRows {
				wantNoBase(t, "rows", b)
			} else if e := Check(b); e != api.OK {
				t.Errorf("%d rows: %v", n, e)
			}
		}
	}
}

// TestRecords: a row's record has at most MaxRecord bytes.
func TestRecords(t *testing.T) {
	long := strings.Repeat("a", api.MaxStr)
	for _, more := range [][]api.Value{{null()}, {in(1)}, {in(math.MinInt64), bl("")}, {tx("b"), in(-300)}} {
		head := append(vals(tx(long), bl(long), tx(long)), more...)
		text := "create table t (a"
		for _, n := range counted(len(head)) {
			text += ", " + n
		}
		l, _ := record.Encode(append(head, tx(strings.Repeat("c", 200))))
		most := 200 + api.MaxRecord - len(l)
		for n := most - 3; n < most+4; n++ {
			b := api.Base{Tables: tables(table(text+")", append(head, tx(strings.Repeat("c", n)))))}
			if n > most {
				wantNoBase(t, "long record", b)
			} else {
				wantBase(t, "record", b)
			}
		}
	}
	text, all := "create table t (a", vals(tx(long))
	for _, n := range counted(15) {
		text, all = text+", "+n, append(all, bl(long))
	}
	wantNoBase(t, "as long as may be", api.Base{Tables: tables(table(text+")", all))})
}

func TestVirtual(t *testing.T) {
	ok := func(l ...int64) bool {
		return l[1] >= -api.Coord && l[2] < api.Coord && l[3] >= -api.Coord && l[4] < api.Coord && l[1] <= l[2] && l[3] <= l[4]
	}
	edges := []int64{math.MinInt64, -api.Coord - 1, -api.Coord, -1, 0, 1, api.Coord - 1, api.Coord, 1 << 32, 1 << 53, math.MaxInt64}
	for _, id := range []int64{math.MinInt64, -api.Coord - 1, 0, 7, math.MaxInt64} {
		for _, x := range edges {
			for _, y := range edges {
				for _, l := range [][]int64{{id, x, y, 0, 0}, {id, 0, 0, x, y}, {id, x, 5, y, 5}, {id, -5, x, -5, y}} {
					row := vals(in(l[0]), in(l[1]), in(l[2]), in(l[3]), in(l[4]))
					b := api.Base{Tables: tables(table("create virtual table t using rtree (a, b, c, d, e)", row))}
					if e := Check(b); (e == api.OK) != ok(l...) || e != api.OK && e != api.ErrForm {
						t.Errorf("%v: %v", l, e)
					}
					for _, d := range []int64{-1, 1} {
						b.Tables[0].Rows[0].ID = id + d
						if e := Check(b); e != api.ErrForm {
							t.Errorf("%v, not %d: %v", l, id+d, e)
						}
					}
				}
			}
		}
	}
	run(t, wantNoBase, []edit{
		{"four columns", func(b *api.Base) { b.Tables[0].Cols, b.Tables[0].Rows = b.Tables[0].Cols[:4], nil }},
		{"six columns", func(b *api.Base) {
			b.Tables[0].Cols, b.Tables[0].Rows = append(b.Tables[0].Cols, api.Column{Name: "z", Type: api.TypeInt, NotNull: true}), nil
		}},
		{"six values", func(b *api.Base) { b.Tables[0].Rows[0].Vals = append(b.Tables[0].Rows[0].Vals, in(0)) }},
		{"no columns", func(b *api.Base) { b.Tables[0].Cols, b.Tables[0].Rows = nil, nil }},
		{"a null", func(b *api.Base) { b.Tables[0].Rows[0].Vals[0] = null(); b.Tables[0].Rows[0].ID = 0 }},
		{"a text", func(b *api.Base) { b.Tables[0].Rows[0].Vals[4] = tx("2") }},
		{"two of one box' identity", func(b *api.Base) { b.Tables[0].Rows[1] = b.Tables[0].Rows[0] }},
		{"identities falling", func(b *api.Base) { b.Tables[0].Rows[0].ID, b.Tables[0].Rows[0].Vals[0] = 10, in(10) }},
	})
	for i := range 5 {
		for n := api.TypeNone; n <= api.TypeBlob+1; n++ {
			for _, notNull := range []bool{false, true} {
				b := sample()
				b.Tables[0].Rows = nil
				b.Tables[0].Cols[i].Type, b.Tables[0].Cols[i].NotNull = n, notNull
				if n == api.TypeInt && notNull {
					wantBase(t, "virtual", b)
				} else {
					wantNoBase(t, "virtual", b)
				}
			}
		}
	}
}

func TestIndexes(t *testing.T) {
	run(t, wantNoBase, []edit{
		{"falling names", func(b *api.Base) { b.Indexes[0], b.Indexes[1] = b.Indexes[1], b.Indexes[0] }},
		{"a name falling at the end", func(b *api.Base) { b.Indexes[3].Name = "ii" }},
		{"two alike", func(b *api.Base) { b.Indexes[1].Name = "i" }},
		{"a table's name", func(b *api.Base) { b.Indexes[3].Name = "t" }},
		{"its own table's name", func(b *api.Base) { b.Indexes[3].Name = "u" }},
		{"a Virtual table's name", func(b *api.Base) { b.Indexes[3].Name = "r" }},
		{"no such table", func(b *api.Base) { b.Indexes[0].Table = "s" }},
		{"no table", func(b *api.Base) { b.Indexes[0].Table = "" }},
		{"an index as table", func(b *api.Base) { b.Indexes[0].Table = "j" }},
		{"over a Virtual one", func(b *api.Base) { b.Indexes[2].Table, b.Indexes[2].Cols[0] = "r", "id" }},
		{"no columns", func(b *api.Base) { b.Indexes[2].Cols = nil }},
		{"another table's column", func(b *api.Base) { b.Indexes[0].Cols[0] = "d" }},
		{"no column", func(b *api.Base) { b.Indexes[1].Cols[1] = "z" }},
		{"over the rowid", func(b *api.Base) { b.Indexes[2].Cols[0] = "rowid" }},
		{"one column twice", func(b *api.Base) { b.Indexes[1].Cols[1] = "b" }},
		{"one column twice, apart", func(b *api.Base) { b.Indexes[1].Cols = []string{"a", "b", "a"} }},
		{"Unique with two alike", func(b *api.Base) { b.Indexes[1].Unique, b.Indexes[1].Cols = true, []string{"b"} }},
		{"Unique with two alike, null elsewhere", func(b *api.Base) {
			b.Indexes[1].Unique = true
			b.Tables[1].Rows[0].Vals[0] = in(7)
			b.Indexes = b.Indexes[1:]
		}},
		{"indexes without tables", func(b *api.Base) { b.Tables = nil }},
	})
	run(t, wantBase, []edit{
		{"alike without Unique", func(b *api.Base) { b.Indexes[1].Cols = []string{"b"} }},
		{"alike but for a null", func(b *api.Base) { b.Indexes[1].Unique = true }},
		{"alike in either column, not in both", func(b *api.Base) {
			b.Indexes[1].Unique, b.Indexes = true, b.Indexes[1:]
			b.Tables[1].Rows[1].Vals[0], b.Tables[1].Rows[3].Vals[0] = in(5), in(8)
		}},
	})
}

// TestUnique: which two rows are alike.
func TestUnique(t *testing.T) {
	long := strings.Repeat("a", api.MaxStr)
	sorts := [][]api.Value{
		vals(null(), null()), vals(in(1), null()), vals(null(), in(1)), vals(in(0), in(0)), vals(in(1), in(0)), vals(in(0), in(1)), vals(in(1), in(1)), vals(in(-1), in(1)), vals(in(1), in(-1)), vals(in(256), in(1)), vals(in(1), in(256)), vals(in(math.MinInt64), in(math.MaxInt64)), vals(in(math.MaxInt64), in(math.MinInt64)),
		vals(tx("1"), in(1)), vals(bl("1"), in(1)), vals(in(49), in(1)), vals(tx(""), tx("")), vals(bl(""), bl("")), vals(tx(""), bl("")), vals(bl(""), tx("")), vals(tx("a"), tx("bc")), vals(tx("ab"), tx("c")), vals(tx("abc"), tx("")), vals(tx(""), tx("abc")), vals(bl("a"), bl("bc")), vals(tx("a"), bl("bc")), vals(tx("null"), in(1)), vals(tx("\x00"), tx("")), vals(tx(""), tx("\x00")), vals(bl("\x00"), bl("")),
		vals(tx(long), tx(long)), vals(tx(long[1:]), tx(long)), vals(tx(long), tx(long[1:])), vals(tx(long[1:]+"b"), tx(long)), vals(bl(long), tx(long)),
	}
	for i, k := range sorts {
		for j, l := range sorts {
			b := api.Base{Tables: tables(table("create table t (a, b, c)", append(vals(in(1)), k...), append(vals(in(2)), l...))), Indexes: indexes("create unique index i on t (b, c)")}
			alike := i == j && k[0] != null() && k[1] != null()
			for range 2 {
				if e := Check(b); (e == api.OK) == alike {
					t.Errorf("%s, %s: %v", shown(k), shown(l), e)
				}
				b.Indexes[0].Cols = []string{"c", "b"}
			}
			b.Indexes[0].Cols = []string{"a", "b", "c"}
			wantBase(t, "unlike in a", b)
			b.Indexes[0].Cols[0], b.Tables[0].Rows[1].Vals[0] = "a", null()
			wantBase(t, "null in a", b)
		}
	}
}

// TestUniqueFar: alike ones are found wherever they stand.
func TestUniqueFar(t *testing.T) {
	const n = 40
	var rows [][]api.Value
	for i := range int64(n) {
		rows = append(rows, vals(in(i), tx(strconv.Itoa(int(i%3)))))
	}
	b := api.Base{Tables: tables(table("create table t (a, b)", rows...)), Indexes: indexes("create index h on t (b)", "create unique index i on t (a)")}
	wantBase(t, "unlike", b)
	for i := range n {
		for j := range n {
			b.Tables[0].Rows[i].Vals[0] = in(int64(j))
			if e := Check(b); (e == api.OK) != (i == j) {
				t.Errorf("%d, %d: %v", i, j, e)
			}
			b.Tables[0].Rows[i].Vals[0] = in(int64(i))
		}
	}
}

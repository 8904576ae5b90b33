package bind

import (
	"math"
	"math/rand"
	"regexp"
	"slices"
	"strings"

	"cadastre/api"
	"cadastre/box"
	"cadastre/print"
)

var word = regexp.MustCompile(`^[a-z_][a-z0-9_]{0,31}$`)

// isWord tells whether s is a name: a word that a statement can drop.
func isWord(s string) bool {
	return word.MatchString(s) && print.Check(api.Stmt{Kind: api.StmtDropTable, Name: s}) == api.OK
}

// room tells how many bytes a row's record has, by chapter 6.
func room(l []api.Value) int {
	n := 1
	for _, v := range l {
		switch {
		case v.Kind == api.KindText || v.Kind == api.KindBlob:
			n += 1 + len(v.Str)
			if len(v.Str) > 57 {
				n++
			}
			if len(v.Str) > 8185 {
				n++
			}
		case v.Kind == api.KindNull || v.Int == 0 || v.Int == 1:
			n++
		case v.Int == int64(int8(v.Int)):
			n += 2
		case v.Int == int64(int16(v.Int)):
			n += 3
		case v.Int == int64(int32(v.Int)):
			n += 5
		default:
			n += 9
		}
	}
	return n
}

// fitting tells whether v may stand in the column c.
func fitting(v api.Value, c api.Column) bool {
	switch v.Kind {
	case api.KindNull:
		return v == null() && !c.NotNull
	case api.KindInt:
		return v.Str == "" && (c.Type == api.TypeAny || c.Type == api.TypeInt)
	case api.KindText:
		return v.Int == 0 && len(v.Str) <= api.MaxStr && (c.Type == api.TypeAny || c.Type == api.TypeText)
	case api.KindBlob:
		return v.Int == 0 && len(v.Str) <= api.MaxStr && (c.Type == api.TypeAny || c.Type == api.TypeBlob)
	}
	return false
}

// each tells whether all pairs of l, one ahead of the other, may stand so.
func each[T any](l []T, may func(a, b T) bool) bool {
	for i, b := range l {
		for _, a := range l[:i] {
			if !may(a, b) {
				return false
			}
		}
	}
	return true
}

// tableMayBe, indexMayBe, baseMayBe: by the chapter's words, each pair held against each other.
func tableMayBe(t api.Table) bool {
	ok := isWord(t.Name) && len(t.Cols) >= 1 && len(t.Cols) <= 16 && len(t.Rows) <= 4096
	ok = ok && each(t.Cols, func(a, b api.Column) bool { return a.Name != b.Name })
	ok = ok && each(t.Rows, func(a, b api.Row) bool { return a.ID < b.ID })
	for _, c := range t.Cols {
		ok = ok && isWord(c.Name) && c.Name != "rowid" && slices.Contains([]int{api.TypeAny, api.TypeInt, api.TypeText, api.TypeBlob}, c.Type)
		ok = ok && (!t.Virtual || len(t.Cols) == 5 && c.Type == api.TypeInt && c.NotNull)
	}
	for _, r := range t.Rows {
		ok = ok && len(r.Vals) == len(t.Cols) && room(r.Vals) <= api.MaxRecord
		for i := range r.Vals {
			ok = ok && fitting(r.Vals[i], t.Cols[i])
		}
		if ok && t.Virtual {
			_, e := box.Make(r.Vals[1].Int, r.Vals[2].Int, r.Vals[3].Int, r.Vals[4].Int)
			ok = r.Vals[0] == in(r.ID) && e == api.OK
		}
	}
	return ok
}

func indexMayBe(b api.Base, x api.Index) bool {
	i := slices.IndexFunc(b.Tables, func(t api.Table) bool { return t.Name == x.Table && !t.Virtual })
	if i < 0 || !isWord(x.Name) || len(x.Cols) == 0 || !each(x.Cols, func(a, b string) bool { return a != b }) {
		return false
	}
	var at []int
	for _, n := range x.Cols {
		k := slices.IndexFunc(b.Tables[i].Cols, func(c api.Column) bool { return c.Name == n })
		if k < 0 {
			return false
		}
		at = append(at, k)
	}
	return !x.Unique || each(b.Tables[i].Rows, func(r, s api.Row) bool {
		return slices.ContainsFunc(at, func(k int) bool { return r.Vals[k] != s.Vals[k] || r.Vals[k] == null() })
	})
}

func baseMayBe(b api.Base) bool {
	ok := len(b.Tables) <= 16 && len(b.Indexes) <= 16
	ok = ok && each(b.Tables, func(s, t api.Table) bool { return s.Name < t.Name })
	ok = ok && each(b.Indexes, func(x, y api.Index) bool { return x.Name < y.Name })
	for _, t := range b.Tables {
		ok = ok && tableMayBe(t)
	}
	for _, x := range b.Indexes {
		ok = ok && indexMayBe(b, x)
		ok = ok && !slices.ContainsFunc(b.Tables, func(t api.Table) bool { return t.Name == x.Name })
	}
	return ok
}

// fault is an error and whether it applies.
type fault struct {
	is bool
	e  api.Errno
}

func first(l ...fault) api.Errno {
	for _, f := range l {
		if f.is {
			return f.e
		}
	}
	return api.OK
}

// places tells the rowids and columns of tables, each as table.name, in order.
func places(b api.Base, names []string) []string {
	var l []string
	for _, n := range names {
		for _, t := range b.Tables {
			if t.Name == n {
				l = append(l, n+".rowid")
				for _, c := range t.Cols {
					l = append(l, n+"."+c.Name)
				}
			}
		}
	}
	return l
}

// bindModel binds all of l, behind each other, and tells the first error; whether an expression may be an aggregate is asked of its place in l.
func bindModel(l []api.Expr, at []string, aggregate bool) ([]api.Expr, []fault) {
	var all []api.Expr
	var faults []fault
	for _, e := range l {
		var inner []fault
		e.Args, inner = bindModel(e.Args, at, false)
		faults = append(faults, inner...)
		if e.Op == api.OpCol {
			var found []int
			for i, p := range at {
				if p == e.Table+"."+e.Name || e.Table == "" && strings.HasSuffix(p, "."+e.Name) {
					found = append(found, i)
				}
			}
			faults = append(faults, fault{len(found) != 1, api.ErrName})
			if len(found) == 1 {
				e = col(at[found[0]])
				e.Val = in(int64(found[0]))
			}
		}
		faults = append(faults, fault{e.Op >= api.OpCount && !aggregate, api.ErrForm})
		all = append(all, e)
	}
	return all, faults
}

// flat tells l and all within.
func flat(l []api.Expr) []api.Expr {
	var all []api.Expr
	for _, e := range l {
		all = append(append(all, e), flat(e.Args)...)
	}
	return all
}

// model tells what Bind is to tell of a base and a statement that may be.
func model(b api.Base, s api.Stmt) (api.Stmt, api.Errno) {
	var tables, indexes, cols []string
	for _, t := range b.Tables {
		tables = append(tables, t.Name)
	}
	for _, x := range b.Indexes {
		indexes = append(indexes, x.Name)
	}
	for _, c := range s.Cols {
		cols = append(cols, c.Name)
	}
	unlike := func(a, b string) bool { return a != b }
	taken := fault{slices.Contains(tables, s.Name) || slices.Contains(indexes, s.Name), api.ErrTaken}
	missing := fault{!slices.Contains(tables, s.Table), api.ErrName}
	at := places(b, []string{s.Table})
	var own []string
	if len(at) > 0 {
		own = at[1:]
	}
	var l []fault
	switch s.Kind {
	case api.StmtTable, api.StmtVirtual:
		l = []fault{taken, {!each(cols, unlike) || slices.Contains(cols, "rowid"), api.ErrTaken}, {len(tables) == 16, api.ErrLimit}}
	case api.StmtIndex:
		virtual := slices.ContainsFunc(b.Tables, func(t api.Table) bool { return t.Name == s.Table && t.Virtual })
		l = []fault{taken, missing, {virtual, api.ErrType}}
		for _, n := range s.Names {
			l = append(l, fault{!slices.Contains(own, s.Table+"."+n), api.ErrName})
		}
		l = append(l, fault{!each(s.Names, unlike), api.ErrTaken}, fault{len(indexes) == 16, api.ErrLimit})
	case api.StmtDropTable:
		l = []fault{{!slices.Contains(tables, s.Name), api.ErrName}}
	case api.StmtDropIndex:
		l = []fault{{!slices.Contains(indexes, s.Name), api.ErrName}}
	case api.StmtInsert:
		all := flat(slices.Concat(s.Rows...))
		l = []fault{missing,
			{slices.ContainsFunc(s.Rows, func(row []api.Expr) bool { return len(row) != len(own) }), api.ErrForm},
			{slices.ContainsFunc(all, func(e api.Expr) bool { return e.Op == api.OpCol }), api.ErrName},
			{slices.ContainsFunc(all, func(e api.Expr) bool { return e.Op >= api.OpCount }), api.ErrForm}}
	case api.StmtDelete, api.StmtUpdate:
		l = []fault{missing}
		var behind []fault
		sets := slices.Clone(s.Sets)
		for i, x := range sets {
			ahead := slices.ContainsFunc(sets[:i], func(y api.Set) bool { return y.Name == x.Name })
			l = append(l, fault{!slices.Contains(own, s.Table+"."+x.Name), api.ErrName}, fault{ahead, api.ErrTaken})
			e, f := bindModel(exprs(x.E), at, false)
			sets[i].E = e[0]
			behind = append(behind, f...)
		}
		where, f := bindModel(s.Where, at, false)
		s.Sets, s.Where, l = sets, where, slices.Concat(l, behind, f)
	case api.StmtSelect:
		s, l = modelSelect(b, s, tables)
	}
	if e := first(l...); e != api.OK {
		return api.Stmt{}, e
	}
	return s, api.OK
}

func modelSelect(b api.Base, s api.Stmt, tables []string) (api.Stmt, []fault) {
	var l []fault
	for i, n := range s.From {
		l = append(l, fault{!slices.Contains(tables, n), api.ErrName}, fault{slices.Contains(s.From[:i], n), api.ErrTaken})
	}
	at := places(b, s.From)
	grouped := len(s.Order) == 0 && !slices.ContainsFunc(s.Out, func(e api.Expr) bool { return e.Op < api.OpCount })
	out, f := bindModel(s.Out, at, grouped)
	where, g := bindModel(s.Where, at, false)
	l = slices.Concat(l, f, g)
	order := slices.Clone(s.Order)
	for i, o := range order {
		e, f := bindModel(exprs(o.E), at, false)
		order[i].E = e[0]
		l = append(l, f...)
	}
	if s.Star {
		for i, p := range at {
			if !strings.HasSuffix(p, ".rowid") {
				x := col(p)
				x.Val = in(int64(i))
				out = append(out, x)
			}
		}
		l = append(l, fault{len(out) > 16, api.ErrLimit})
	}
	s.Out, s.Where, s.Order, s.Star = out, where, order, false
	return s, l
}

// some makes bases and statements.
type some struct{ *rand.Rand }

func (r some) of(l ...string) string { return l[r.Intn(len(l))] }

func (r some) one(n int) bool { return r.Intn(n) == 0 }

func (r some) table() string { return r.of("r", "t", "t", "u", "v", "w") }

func (r some) column() string {
	return r.of("a", "a", "b", "c", "d", "e", "id", "x0", "y1", "rowid", "no")
}

func (r some) index() string { return r.of("i", "j", "k", "l", "m", "t") }

func (r some) value() api.Value {
	switch r.Intn(6) {
	case 0:
		return null()
	case 1, 2:
		return in([]int64{-1, 0, 1, 2, 300, math.MinInt64}[r.Intn(6)])
	case 3, 4:
		return tx(r.of("", "x", "y", "1"))
	}
	return bl(r.of("", "x", "z"))
}

// base tells a base that may be in most cases, of tables r to w.
func (r some) base() api.Base {
	var b api.Base
	for _, name := range []string{"r", "t", "u", "v"} {
		if r.one(5) {
			continue
		}
		t := table("create virtual table " + name + " using rtree (id, x0, x1, y0, y1)")
		if name != "r" {
			t.Virtual, t.Cols = false, nil
			for _, c := range []string{"a", "b", "c", "d", "e"}[r.Intn(3) : 3+r.Intn(3)] {
				t.Cols = append(t.Cols, api.Column{Name: c, Type: api.TypeAny, NotNull: r.one(6)})
			}
			if r.one(2) {
				t.Cols[0].Type = api.TypeInt + r.Intn(3)
			}
		}
		id := int64(r.Intn(9) - 6)
		for range r.Intn(4) {
			row := api.Row{ID: id}
			for _, c := range t.Cols {
				v := r.value()
				for range 20 {
					if fitting(v, c) {
						break
					}
					v = r.value()
				}
				row.Vals = append(row.Vals, v)
			}
			if t.Virtual {
				row.Vals = vals(in(id), in(int64(r.Intn(3))), in(int64(r.Intn(3)+2)), in(-api.Coord), in(int64(r.Intn(2))))
			}
			t.Rows = append(t.Rows, row)
			id += int64(r.Intn(5) + 1)
		}
		b.Tables = append(b.Tables, t)
	}
	for _, name := range []string{"i", "j", "k"} {
		if len(b.Tables) > 0 && !r.one(3) {
			t := b.Tables[r.Intn(len(b.Tables))]
			x := api.Index{Name: name, Table: t.Name, Unique: r.one(3)}
			for _, k := range r.Perm(len(t.Cols))[:1+r.Intn(len(t.Cols))] {
				x.Cols = append(x.Cols, t.Cols[k].Name)
			}
			if !t.Virtual || r.one(8) {
				b.Indexes = append(b.Indexes, x)
			}
		}
	}
	return b
}

// spoil changes one thing of b.
func (r some) spoil(b *api.Base) {
	if len(b.Tables) == 0 {
		b.Indexes = append(b.Indexes, api.Index{Name: "i", Table: "t", Cols: []string{"a"}})
		return
	}
	t := &b.Tables[r.Intn(len(b.Tables))]
	c := &t.Cols[r.Intn(len(t.Cols))]
	switch r.Intn(10) {
	case 0:
		t.Name = r.of("a", "i", "t", "u", "z", "rowid", "Select", "select")
	case 1:
		c.Name = r.of("a", "b", "rowid", "text", "n")
	case 2:
		c.Type = r.Intn(7) - 1
	case 3:
		c.NotNull = !c.NotNull
	case 4:
		t.Virtual = !t.Virtual
	case 5:
		t.Cols = append(t.Cols, api.Column{Name: "n", Type: api.TypeInt, NotNull: true})
	case 6:
		slices.Reverse(b.Tables)
	case 7:
		slices.Reverse(b.Indexes)
	case 8:
		r.spoilRow(t)
	case 9:
		r.spoilIndex(b)
	}
}

func (r some) spoilRow(t *api.Table) {
	if len(t.Rows) == 0 {
		return
	}
	row := &t.Rows[r.Intn(len(t.Rows))]
	switch r.Intn(4) {
	case 0:
		row.ID = int64(r.Intn(9) - 4)
	case 1:
		row.Vals = row.Vals[min(1, len(row.Vals)):]
	case 2:
		row.Vals = slices.Clone(row.Vals)
		if len(row.Vals) == 0 {
			return
		}
		row.Vals[r.Intn(len(row.Vals))] = []api.Value{null(), in(math.MaxInt64), tx("q"), bl("q"), {Kind: 5}, {Int: 1}}[r.Intn(6)]
	case 3:
		row.Vals = slices.Clone(t.Rows[0].Vals)
	}
}

func (r some) spoilIndex(b *api.Base) {
	if len(b.Indexes) == 0 {
		return
	}
	x := &b.Indexes[r.Intn(len(b.Indexes))]
	switch r.Intn(5) {
	case 0:
		x.Name = r.of("a", "i", "t", "u", "z", "min")
	case 1:
		x.Table = r.table()
	case 2:
		x.Unique = true
	case 3:
		x.Cols = append(x.Cols, r.column())
	case 4:
		x.Cols = x.Cols[min(1, len(x.Cols)):]
	}
}

// expr tells an expression of at most that height.
func (r some) expr(high int) api.Expr {
	n := r.Intn(api.OpOr) + 1
	switch {
	case r.one(25):
		n = api.OpCount + r.Intn(4)
	case high == 1 || r.one(4):
		n = api.OpCol
	}
	switch {
	case n == api.OpLit, n != api.OpCol && n != api.OpCount && high == 1:
		v := r.value()
		v.Int = max(v.Int, 0)
		return lit(v)
	case n == api.OpCol && r.one(2):
		return col(r.table() + "." + r.column())
	case n == api.OpCol:
		return col(r.column())
	}
	x := op(n)
	for range countOf(n) {
		x.Args = append(x.Args, r.expr(high-1))
	}
	return x
}

func few[T any](r some, most int, item func() T) []T {
	var l []T
	for range r.Intn(most) + 1 {
		l = append(l, item())
	}
	return l
}

func (r some) short() api.Expr { return r.expr(r.Intn(3) + 1) }

func (r some) aggregate() api.Expr {
	if r.one(3) {
		return op(api.OpCount)
	}
	return op(api.OpSum+r.Intn(3), r.short())
}

func (r some) where() []api.Expr {
	if r.one(2) {
		return nil
	}
	return exprs(r.short())
}

func (r some) stmt() api.Stmt {
	s := api.Stmt{Kind: r.Intn(api.StmtRollback) + 1}
	if r.one(2) {
		s.Kind = api.StmtSelect
	}
	switch s.Kind {
	case api.StmtTable:
		s.Name = r.of(r.table(), r.index(), "n", "rowid")
		s.Cols = few(r, 4, func() api.Column { return api.Column{Name: r.column(), Type: api.TypeAny} })
	case api.StmtVirtual:
		s.Name = r.of(r.table(), r.index(), "n")
		s.Cols = table("create virtual table r using rtree (id, x0, x1, y0, y1)").Cols
		if r.one(2) {
			s.Cols[r.Intn(5)].Name = r.column()
		}
	case api.StmtIndex:
		s.Name, s.Table, s.Unique = r.of(r.table(), r.index(), "n"), r.table(), r.one(2)
		s.Names = few(r, 3, r.column)
	case api.StmtDropTable, api.StmtDropIndex:
		s.Name = r.of(r.table(), r.index())
	case api.StmtInsert:
		s.Table = r.table()
		n := r.Intn(5) + 1
		s.Rows = few(r, 2, func() []api.Expr {
			var l []api.Expr
			for range n {
				l = append(l, lit(tx("x")))
			}
			if r.one(3) {
				l[r.Intn(n)] = r.short()
			}
			return l
		})
	case api.StmtDelete:
		s.Table, s.Where = r.table(), r.where()
	case api.StmtUpdate:
		s.Table, s.Where = r.table(), r.where()
		s.Sets = few(r, 3, func() api.Set { return api.Set{Name: r.column(), E: r.short()} })
	case api.StmtSelect:
		s.From, s.Where = few(r, 3, r.table), r.where()
		switch r.Intn(3) {
		case 0:
			s.Star = true
		case 1:
			s.Out = few(r, 3, r.short)
		case 2:
			s.Out = few(r, 3, r.aggregate)
		}
		if r.one(3) {
			s.Order = few(r, 2, func() api.Order { return api.Order{E: r.short(), Desc: r.one(2)} })
		}
	}
	return s
}

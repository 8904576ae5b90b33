package bind

import (
	"slices"

	"cadastre/api"
)

// rowid is what a row's ID is called.
const rowid = "rowid"

func tableOf(b api.Base, name string) (api.Table, bool) {
	i := slices.IndexFunc(b.Tables, func(t api.Table) bool { return t.Name == name })
	if i < 0 {
		return api.Table{}, false
	}
	return b.Tables[i], true
}

func hasIndex(b api.Base, name string) bool {
	return slices.ContainsFunc(b.Indexes, func(x api.Index) bool { return x.Name == name })
}

// isTaken tells whether a table or an index of b has the name.
func isTaken(b api.Base, name string) bool {
	_, ok := tableOf(b, name)
	return ok || hasIndex(b, name)
}

// columnOf tells the place of a column among those of t, below 0 if it is none of them. The rowid is none.
func columnOf(t api.Table, name string) int {
	return slices.IndexFunc(t.Cols, func(c api.Column) bool { return c.Name == name })
}

// clash tells whether columns of these names cannot stand beside one another and the rowid.
func clash(cols []api.Column) bool {
	names := []string{rowid}
	for _, c := range cols {
		names = append(names, c.Name)
	}
	return repeats(names)
}

func repeats(names []string) bool {
	for i, n := range names {
		if slices.Contains(names[:i], n) {
			return true
		}
	}
	return false
}

// placeOf tells the place of the rowid or of a column among those of t alone, below 0 if it is none of them.
func placeOf(t api.Table, name string) int {
	if name == rowid {
		return 0
	}
	if i := columnOf(t, name); i >= 0 {
		return 1 + i
	}
	return -1
}

// scope is a statement's tables, in order.
type scope []api.Table

// scopeOf tells b's tables of these names.
func scopeOf(b api.Base, names ...string) (scope, api.Errno) {
	var l scope
	for i, n := range names {
		t, ok := tableOf(b, n)
		if !ok {
			return nil, api.ErrName
		}
		if slices.Contains(names[:i], n) {
			return nil, api.ErrTaken
		}
		l = append(l, t)
	}
	return l, api.OK
}

// star tells the columns that * stands for, bound.
func (l scope) star() []api.Expr {
	var all []api.Expr
	first := 0
	for _, t := range l {
		for _, c := range t.Cols {
			all = append(all, bound(t.Name, c.Name, first+placeOf(t, c.Name)))
		}
		first += 1 + len(t.Cols)
	}
	return all
}

// column tells the column e, bound, if just one of the tables has it. With a Table there is no other one, as no two of them have one name.
func (l scope) column(e api.Expr) (api.Expr, api.Errno) {
	var found []api.Expr
	first := 0
	for _, t := range l {
		if at := placeOf(t, e.Name); at >= 0 && (e.Table == t.Name || e.Table == "") {
			found = append(found, bound(t.Name, e.Name, first+at))
		}
		first += 1 + len(t.Cols)
	}
	if len(found) != 1 {
		return api.Expr{}, api.ErrName
	}
	return found[0], api.OK
}

func bound(table, name string, at int) api.Expr {
	return api.Expr{Op: api.OpCol, Val: api.Value{Kind: api.KindInt, Int: int64(at)}, Table: table, Name: name}
}

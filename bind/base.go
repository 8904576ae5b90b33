package bind

import (
	"slices"

	"cadastre/api"
	"cadastre/box"
	"cadastre/print"
	"cadastre/record"
	"cadastre/value"
)

// isBase tells whether b may be.
func isBase(b api.Base) bool {
	if len(b.Tables) > api.MaxTables || len(b.Indexes) > api.MaxIndex {
		return false
	}
	for i, t := range b.Tables {
		if i > 0 && t.Name <= b.Tables[i-1].Name || !isTable(t) {
			return false
		}
	}
	for i, x := range b.Indexes {
		if i > 0 && x.Name <= b.Indexes[i-1].Name || !isIndex(b, x) {
			return false
		}
	}
	return true
}

// isTable asks of the table's names and columns what is asked of the statement that makes it.
func isTable(t api.Table) bool {
	s := api.Stmt{Kind: api.StmtTable, Name: t.Name, Cols: t.Cols}
	if t.Virtual {
		s.Kind = api.StmtVirtual
	}
	if print.Check(s) != api.OK || clash(t.Cols) || len(t.Rows) > api.MaxRows {
		return false
	}
	for i, r := range t.Rows {
		if i > 0 && r.ID <= t.Rows[i-1].ID || !isRow(t, r) {
			return false
		}
	}
	return true
}

// isRow tells whether r may be one of t's, whose columns may be.
func isRow(t api.Table, r api.Row) bool {
	if len(r.Vals) != len(t.Cols) {
		return false
	}
	for i, c := range t.Cols {
		if fits, e := value.Fits(r.Vals[i], c.Type); e != api.OK || !fits {
			return false
		}
		if c.NotNull && r.Vals[i].Kind == api.KindNull {
			return false
		}
	}
	if _, e := record.Encode(r.Vals); e != api.OK {
		return false
	}
	return !t.Virtual || isBox(r)
}

// isBox tells whether r, of five integers, may be a Virtual table's.
func isBox(r api.Row) bool {
	v := r.Vals
	_, e := box.Make(v[1].Int, v[2].Int, v[3].Int, v[4].Int)
	return e == api.OK && r.ID == v[0].Int
}

// isIndex tells whether x may be one of b's, whose tables may be. Of its names is asked what is asked of the statement that makes it.
func isIndex(b api.Base, x api.Index) bool {
	s := api.Stmt{Kind: api.StmtIndex, Name: x.Name, Table: x.Table, Unique: x.Unique, Names: x.Cols}
	if print.Check(s) != api.OK || overTable(b, s) != api.OK {
		return false
	}
	if _, ok := tableOf(b, x.Name); ok {
		return false
	}
	t, _ := tableOf(b, x.Table)
	return !x.Unique || !sharesValues(t, x.Cols)
}

// sharesValues tells whether two rows of t have the same values in these columns, none of them null.
func sharesValues(t api.Table, names []string) bool {
	seen := map[string]struct{}{}
	for _, r := range t.Rows {
		var l []api.Value
		for _, n := range names {
			l = append(l, r.Vals[columnOf(t, n)])
		}
		if slices.Contains(l, api.Value{}) {
			continue
		}
		// The same record is the same values; it is shorter than the row's own, so there is one.
		key, _ := record.Encode(l)
		if _, ok := seen[string(key)]; ok {
			return true
		}
		seen[string(key)] = struct{}{}
	}
	return false
}

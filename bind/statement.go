package bind

import (
	"slices"

	"cadastre/api"
)

// place binds s, which may be, and tells the first error of its names.
func place(b api.Base, s *api.Stmt) api.Errno {
	switch s.Kind {
	case api.StmtTable, api.StmtVirtual:
		return newTable(b, *s)
	case api.StmtIndex:
		return newIndex(b, *s)
	case api.StmtDropTable:
		_, e := scopeOf(b, s.Name)
		return e
	case api.StmtDropIndex:
		if !hasIndex(b, s.Name) {
			return api.ErrName
		}
	case api.StmtInsert:
		return insert(b, *s)
	case api.StmtDelete, api.StmtUpdate:
		return change(b, s)
	case api.StmtSelect:
		return choose(b, s)
	}
	return api.OK
}

func newTable(b api.Base, s api.Stmt) api.Errno {
	if isTaken(b, s.Name) || clash(s.Cols) {
		return api.ErrTaken
	}
	if len(b.Tables) == api.MaxTables {
		return api.ErrLimit
	}
	return api.OK
}

func newIndex(b api.Base, s api.Stmt) api.Errno {
	if isTaken(b, s.Name) {
		return api.ErrTaken
	}
	if e := overTable(b, s); e != api.OK {
		return e
	}
	if len(b.Indexes) == api.MaxIndex {
		return api.ErrLimit
	}
	return api.OK
}

// overTable tells whether a table of b has the columns of an index that s would make, or does make.
func overTable(b api.Base, s api.Stmt) api.Errno {
	t, ok := tableOf(b, s.Table)
	switch {
	case !ok:
		return api.ErrName
	case t.Virtual:
		return api.ErrType
	case slices.ContainsFunc(s.Names, func(n string) bool { return columnOf(t, n) < 0 }):
		return api.ErrName
	case repeats(s.Names):
		return api.ErrTaken
	}
	return api.OK
}

// insert asks all rows for their length, then all for columns, then all for aggregates.
func insert(b api.Base, s api.Stmt) api.Errno {
	t, ok := tableOf(b, s.Table)
	if !ok {
		return api.ErrName
	}
	for _, row := range s.Rows {
		if len(row) != len(t.Cols) {
			return api.ErrForm
		}
	}
	all := slices.Concat(s.Rows...)
	if has(all, isColumn) {
		return api.ErrName
	}
	if has(all, isAggregate) {
		return api.ErrForm
	}
	return api.OK
}

// has tells whether one of the expressions, or one within them, has an operation of that sort.
func has(l []api.Expr, sort func(int) bool) bool {
	return slices.ContainsFunc(l, func(e api.Expr) bool { return sort(e.Op) || has(e.Args, sort) })
}

func isColumn(op int) bool { return op == api.OpCol }

func isAggregate(op int) bool { return op >= api.OpCount && op <= api.OpMax }

// change binds a statement that deletes or updates rows of one table.
func change(b api.Base, s *api.Stmt) api.Errno {
	l, e := scopeOf(b, s.Table)
	if e != api.OK {
		return e
	}
	var named []string
	for _, x := range s.Sets {
		if columnOf(l[0], x.Name) < 0 {
			return api.ErrName
		}
		if slices.Contains(named, x.Name) {
			return api.ErrTaken
		}
		named = append(named, x.Name)
	}
	return l.walk(s)
}

func choose(b api.Base, s *api.Stmt) api.Errno {
	l, e := scopeOf(b, s.From...)
	if e != api.OK {
		return e
	}
	if e := l.walk(s); e != api.OK {
		return e
	}
	if !s.Star {
		return api.OK
	}
	s.Star, s.Out = false, l.star()
	if len(s.Out) > api.MaxCols {
		return api.ErrLimit
	}
	return api.OK
}

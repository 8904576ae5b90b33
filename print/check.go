package print

import (
	"cadastre/api"
	"cadastre/value"
	"cadastre/words"
)

// boxCols: a tree of boxes has an identity and four numbers.
const boxCols = 5

// isStatement tells whether s may be. What its kind names is asked, and taken out of this copy of s: nothing must be left.
func isStatement(s api.Stmt) bool {
	room := newBudget()
	ok := false
	switch s.Kind {
	case api.StmtTable:
		ok = words.IsName(s.Name) && all(s.Cols, api.MaxCols, isColumn)
		s.Name, s.Cols = "", nil
	case api.StmtVirtual:
		ok = words.IsName(s.Name) && len(s.Cols) == boxCols && all(s.Cols, boxCols, isBoxColumn)
		s.Name, s.Cols = "", nil
	case api.StmtIndex:
		ok = words.IsName(s.Name) && words.IsName(s.Table) && all(s.Names, api.MaxCols, words.IsName)
		s.Name, s.Table, s.Unique, s.Names = "", "", false, nil
	case api.StmtDropTable, api.StmtDropIndex:
		ok = words.IsName(s.Name)
		s.Name = ""
	case api.StmtInsert:
		// Each row has an expression.
		ok = words.IsName(s.Table) && all(s.Rows, api.MaxNodes, room.row)
		s.Table, s.Rows = "", nil
	case api.StmtDelete:
		ok = words.IsName(s.Table) && room.where(s)
		s.Table, s.Where = "", nil
	case api.StmtUpdate:
		ok = words.IsName(s.Table) && all(s.Sets, api.MaxCols, room.set) && room.where(s)
		s.Table, s.Sets, s.Where = "", nil, nil
	case api.StmtSelect:
		ok = all(s.From, api.MaxFrom, words.IsName) && room.out(s) && room.where(s) && room.order(s)
		s.From, s.Star, s.Out, s.Where, s.Order = nil, false, nil, nil, nil
	case api.StmtBegin, api.StmtCommit, api.StmtRollback:
		ok = true
	}
	return ok && isBare(s)
}

// isBare tells whether s has nothing but its kind.
func isBare(s api.Stmt) bool {
	items := len(s.Cols) + len(s.Names) + len(s.Rows) + len(s.Sets) + len(s.From) + len(s.Out) + len(s.Where) + len(s.Order)
	return s.Name == "" && s.Table == "" && !s.Unique && !s.Star && items == 0
}

// all tells whether l has from one to that many items, and each of them may be.
func all[T any](l []T, most int, item func(T) bool) bool {
	if len(l) == 0 || len(l) > most {
		return false
	}
	for _, x := range l {
		if !item(x) {
			return false
		}
	}
	return true
}

func isColumn(c api.Column) bool {
	return words.IsName(c.Name) && c.Type >= api.TypeAny && c.Type <= api.TypeBlob
}

func isBoxColumn(c api.Column) bool {
	return words.IsName(c.Name) && c.Type == api.TypeInt && c.NotNull
}

// budget is how many more expressions there may be. Its methods each tell whether one thing may be, and take its expressions from the budget.
type budget int

func newBudget() *budget {
	b := budget(api.MaxNodes)
	return &b
}

func (b *budget) row(l []api.Expr) bool { return all(l, api.MaxCols, b.expr) }

func (b *budget) set(s api.Set) bool { return words.IsName(s.Name) && b.expr(s.E) }

func (b *budget) key(o api.Order) bool { return b.expr(o.E) }

func (b *budget) out(s api.Stmt) bool {
	if s.Star {
		return len(s.Out) == 0
	}
	return all(s.Out, api.MaxCols, b.expr)
}

func (b *budget) where(s api.Stmt) bool {
	return len(s.Where) == 0 || all(s.Where, 1, b.expr)
}

func (b *budget) order(s api.Stmt) bool {
	return len(s.Order) == 0 || all(s.Order, api.MaxCols, b.key)
}

func (b *budget) expr(e api.Expr) bool { return b.within(e, api.MaxDeep) }

// within tells whether e may be, as one that is at most that high. It stops as soon as there are too many expressions: lists of Args may stand in several places, and so hold more of them than could be gone through.
func (b *budget) within(e api.Expr, high int) bool {
	*b--
	if *b < 0 || high == 0 || !isNode(e) {
		return false
	}
	for _, arg := range e.Args {
		if !b.within(arg, high-1) {
			return false
		}
	}
	return true
}

// isNode tells whether e may be, if its Args may. What its Op names is asked, and taken out of this copy of e: nothing must be left.
func isNode(e api.Expr) bool {
	if e.Op < api.OpLit || e.Op > api.OpMax || len(e.Args) != countArgs(e.Op) {
		return false
	}
	ok := true
	switch e.Op {
	case api.OpLit:
		ok = isLiteral(e.Val)
		e.Val = api.Value{}
	case api.OpCol:
		ok = words.IsName(e.Name) && (e.Table == "" || words.IsName(e.Table))
		e.Table, e.Name = "", ""
	}
	return ok && e.Val == api.Value{} && e.Table == "" && e.Name == ""
}

// isLiteral: a sign is no part of an integer.
func isLiteral(v api.Value) bool { return value.Check(v) == api.OK && v.Int >= 0 }

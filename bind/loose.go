package bind

import (
	"slices"

	"cadastre/api"
	"cadastre/value"
)

// starred tells s with * in the place of what it stands for, bound: else what is bound could have too many expressions to be bound once more.
func starred(b api.Base, s api.Stmt) api.Stmt {
	if s.Kind != api.StmtSelect || s.Star || len(s.From) > api.MaxFrom || len(s.Out) > api.MaxCols {
		return s
	}
	l, e := scopeOf(b, s.From...)
	if e == api.OK && slices.EqualFunc(s.Out, l.star(), sameColumn) {
		s.Star, s.Out = true, nil
	}
	return s
}

func sameColumn(a, b api.Expr) bool {
	return a.Op == b.Op && a.Val == b.Val && a.Table == b.Table && a.Name == b.Name && len(a.Args) == 0 && len(b.Args) == 0
}

// loose tells s with copies of its expressions, and these without the places of columns: any integers may stand there, but only here.
func loose(s api.Stmt) api.Stmt {
	c := copier{left: api.MaxNodes}
	s.Rows = copied(&c, s.Rows, c.row)
	s.Sets = copied(&c, s.Sets, c.set)
	s.Out = copied(&c, s.Out, c.expr)
	s.Where = copied(&c, s.Where, c.expr)
	s.Order = copied(&c, s.Order, c.key)
	return s
}

// copier makes copies of as many expressions as a statement may have, and leaves others as they are: such a statement is refused, and its expressions may be more than could be gone through, as lists of Args may stand in several places.
type copier struct{ left int }

// copied tells a copy of l, if there may be an expression for each item.
func copied[T any](c *copier, l []T, item func(T) T) []T {
	if len(l) > c.left {
		return l
	}
	var r []T
	for _, x := range l {
		r = append(r, item(x))
	}
	return r
}

func (c *copier) row(l []api.Expr) []api.Expr { return copied(c, l, c.expr) }

func (c *copier) set(s api.Set) api.Set {
	s.E = c.expr(s.E)
	return s
}

func (c *copier) key(o api.Order) api.Order {
	o.E = c.expr(o.E)
	return o
}

func (c *copier) expr(e api.Expr) api.Expr {
	c.left--
	if e.Op == api.OpCol && e.Val.Kind == api.KindInt && value.Check(e.Val) == api.OK {
		e.Val = api.Value{}
	}
	e.Args = copied(c, e.Args, c.expr)
	return e
}

func clone[T any](l []T) []T { return append([]T(nil), l...) }

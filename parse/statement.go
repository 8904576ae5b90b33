package parse

import "cadastre/api"

// boxCols: a tree of boxes has an identity and four numbers.
const boxCols = 5

func (p *parser) statement(s *api.Stmt) bool {
	switch {
	case p.take("create"):
		return p.create(s)
	case p.take("drop table"):
		s.Kind = api.StmtDropTable
		return p.name(&s.Name)
	case p.take("drop index"):
		s.Kind = api.StmtDropIndex
		return p.name(&s.Name)
	case p.take("insert into"):
		s.Kind = api.StmtInsert
		return p.name(&s.Table) && p.take("values") && list(p, &s.Rows, p.row)
	case p.take("delete from"):
		s.Kind = api.StmtDelete
		return p.name(&s.Table) && p.where(s)
	case p.take("update"):
		s.Kind = api.StmtUpdate
		return p.name(&s.Table) && p.take("set") && list(p, &s.Sets, p.set) && p.where(s)
	case p.take("select"):
		s.Kind = api.StmtSelect
		return p.out(s) && p.take("from") && list(p, &s.From, p.name) && p.where(s) && p.order(s)
	case p.take("begin"):
		s.Kind = api.StmtBegin
		return true
	case p.take("commit"):
		s.Kind = api.StmtCommit
		return true
	case p.take("rollback"):
		s.Kind = api.StmtRollback
		return true
	}
	return false
}

func (p *parser) create(s *api.Stmt) bool {
	switch {
	case p.take("table"):
		s.Kind = api.StmtTable
		return p.name(&s.Name) && p.take("(") && list(p, &s.Cols, p.column) && p.take(")")
	case p.take("virtual table"):
		s.Kind = api.StmtVirtual
		return p.name(&s.Name) && p.take("using rtree (") && list(p, &s.Cols, p.boxColumn) && len(s.Cols) == boxCols && p.take(")")
	case p.take("unique index"):
		s.Unique = true
		return p.index(s)
	case p.take("index"):
		return p.index(s)
	}
	return false
}

func (p *parser) index(s *api.Stmt) bool {
	s.Kind = api.StmtIndex
	return p.name(&s.Name) && p.take("on") && p.name(&s.Table) && p.take("(") && list(p, &s.Names, p.name) && p.take(")")
}

func (p *parser) column(c *api.Column) bool {
	if !p.name(&c.Name) {
		return false
	}
	c.Type = p.columnType()
	c.NotNull = p.take("not null")
	return true
}

func (p *parser) columnType() int {
	switch {
	case p.take("integer"):
		return api.TypeInt
	case p.take("text"):
		return api.TypeText
	case p.take("blob"):
		return api.TypeBlob
	}
	p.take("any")
	return api.TypeAny
}

func (p *parser) boxColumn(c *api.Column) bool {
	c.Type = api.TypeInt
	c.NotNull = true
	return p.name(&c.Name)
}

func (p *parser) row(l *[]api.Expr) bool {
	return p.take("(") && list(p, l, p.expr) && p.take(")")
}

func (p *parser) set(s *api.Set) bool {
	return p.name(&s.Name) && p.take("=") && p.expr(&s.E)
}

func (p *parser) out(s *api.Stmt) bool {
	s.Star = p.take("*")
	return s.Star || list(p, &s.Out, p.expr)
}

// where and order read what may be left out: true, too, if it is.
func (p *parser) where(s *api.Stmt) bool {
	if !p.take("where") {
		return true
	}
	s.Where = make([]api.Expr, 1)
	return p.expr(&s.Where[0])
}

func (p *parser) order(s *api.Stmt) bool {
	return !p.take("order by") || list(p, &s.Order, p.orderKey)
}

func (p *parser) orderKey(o *api.Order) bool {
	if !p.expr(&o.E) {
		return false
	}
	o.Desc = p.take("desc")
	return true
}

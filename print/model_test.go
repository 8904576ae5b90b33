package print

import (
	"fmt"
	"strings"

	"cadastre/api"
)

// form is a statement with an expression in it, and its text with ? for that.
type form struct {
	text string
	stmt func(x api.Expr) api.Stmt
}

// withExpr: wherever an expression may stand.
func withExpr() []form {
	from := []string{"t"}
	return []form{
		{"select ? from t", func(x api.Expr) api.Stmt { return api.Stmt{Kind: api.StmtSelect, Out: exprs(x), From: from} }},
		{"select 1, ? from t", func(x api.Expr) api.Stmt {
			return api.Stmt{Kind: api.StmtSelect, Out: exprs(num(1), x), From: from}
		}},
		{"select * from t where ?", func(x api.Expr) api.Stmt {
			return api.Stmt{Kind: api.StmtSelect, Star: true, From: from, Where: exprs(x)}
		}},
		{"select * from t order by ?", func(x api.Expr) api.Stmt {
			return api.Stmt{Kind: api.StmtSelect, Star: true, From: from, Order: []api.Order{{E: x}}}
		}},
		{"select * from t order by a, ? desc", func(x api.Expr) api.Stmt {
			return api.Stmt{Kind: api.StmtSelect, Star: true, From: from, Order: []api.Order{{E: col("a")}, {E: x, Desc: true}}}
		}},
		{"delete from t where ?", func(x api.Expr) api.Stmt {
			return api.Stmt{Kind: api.StmtDelete, Table: "t", Where: exprs(x)}
		}},
		{"update t set a = ?", func(x api.Expr) api.Stmt {
			return api.Stmt{Kind: api.StmtUpdate, Table: "t", Sets: []api.Set{{Name: "a", E: x}}}
		}},
		{"update t set a = 1, b = ? where 1", func(x api.Expr) api.Stmt {
			return api.Stmt{Kind: api.StmtUpdate, Table: "t", Sets: []api.Set{{Name: "a", E: num(1)}, {Name: "b", E: x}}, Where: exprs(num(1))}
		}},
		{"update t set a = 1 where ?", func(x api.Expr) api.Stmt {
			return api.Stmt{Kind: api.StmtUpdate, Table: "t", Sets: []api.Set{{Name: "a", E: num(1)}}, Where: exprs(x)}
		}},
		{"insert into t values (?)", func(x api.Expr) api.Stmt {
			return api.Stmt{Kind: api.StmtInsert, Table: "t", Rows: [][]api.Expr{exprs(x)}}
		}},
		{"insert into t values (1), (2, ?)", func(x api.Expr) api.Stmt {
			return api.Stmt{Kind: api.StmtInsert, Table: "t", Rows: [][]api.Expr{exprs(num(1)), exprs(num(2), x)}}
		}},
	}
}

func boxes(names ...string) []api.Column {
	var l []api.Column
	for _, s := range names {
		l = append(l, api.Column{Name: s, Type: api.TypeInt, NotNull: true})
	}
	return l
}

// joined tells the texts of items, with commas between them.
func joined[T any](l []T, text func(T) string) string {
	var all []string
	for _, x := range l {
		all = append(all, text(x))
	}
	return strings.Join(all, ", ")
}

// exprText tells e's text as a whole, with no look at tokens.
func exprText(e api.Expr) string {
	if s, ok := functions()[e.Op]; ok {
		if len(e.Args) == 0 {
			return s
		}
		return strings.TrimSuffix(s, "b)") + exprText(e.Args[0]) + ")"
	}
	s, ok := signs()[e.Op]
	if !ok {
		return closestText(e)
	}
	words := strings.Fields(s)
	for i, w := range words {
		if w == "b" || w == "c" {
			words[i] = argText(e.Args[w[0]-'b'])
		}
	}
	return strings.Join(words, " ")
}

func closestText(e api.Expr) string {
	switch {
	case e.Op == api.OpCol && e.Table != "":
		return e.Table + "." + e.Name
	case e.Op == api.OpCol:
		return e.Name
	case e.Val.Kind == api.KindInt:
		return fmt.Sprint(e.Val.Int)
	case e.Val.Kind == api.KindText:
		return "'" + strings.Join(strings.Split(e.Val.Str, "'"), "''") + "'"
	case e.Val.Kind == api.KindBlob:
		return fmt.Sprintf("x'%x'", e.Val.Str)
	}
	return "null"
}

func argText(e api.Expr) string {
	if _, ok := signs()[e.Op]; ok {
		return "(" + exprText(e) + ")"
	}
	return exprText(e)
}

func columnText(c api.Column) string {
	s := c.Name + " " + map[int]string{api.TypeAny: "any", api.TypeInt: "integer", api.TypeText: "text", api.TypeBlob: "blob"}[c.Type]
	if c.NotNull {
		s += " not null"
	}
	return s
}

func tail(s api.Stmt) string {
	var text string
	for _, e := range s.Where {
		text += " where " + exprText(e)
	}
	if len(s.Order) > 0 {
		text += " order by " + joined(s.Order, func(o api.Order) string {
			if o.Desc {
				return exprText(o.E) + " desc"
			}
			return exprText(o.E)
		})
	}
	return text
}

func stmtText(s api.Stmt) string {
	itself := func(s string) string { return s }
	switch s.Kind {
	case api.StmtTable:
		return "create table " + s.Name + " (" + joined(s.Cols, columnText) + ")"
	case api.StmtVirtual:
		return "create virtual table " + s.Name + " using rtree (" + joined(s.Cols, func(c api.Column) string { return c.Name }) + ")"
	case api.StmtIndex:
		return map[bool]string{false: "create index ", true: "create unique index "}[s.Unique] + s.Name + " on " + s.Table + " (" + joined(s.Names, itself) + ")"
	case api.StmtDropTable:
		return "drop table " + s.Name
	case api.StmtDropIndex:
		return "drop index " + s.Name
	case api.StmtInsert:
		return "insert into " + s.Table + " values " + joined(s.Rows, func(l []api.Expr) string { return "(" + joined(l, exprText) + ")" })
	case api.StmtDelete:
		return "delete from " + s.Table + tail(s)
	case api.StmtUpdate:
		return "update " + s.Table + " set " + joined(s.Sets, func(x api.Set) string { return x.Name + " = " + exprText(x.E) }) + tail(s)
	case api.StmtSelect:
		out := joined(s.Out, exprText)
		if s.Star {
			out = "*"
		}
		return "select " + out + " from " + joined(s.From, itself) + tail(s)
	}
	return map[int]string{api.StmtBegin: "begin", api.StmtCommit: "commit", api.StmtRollback: "rollback"}[s.Kind]
}

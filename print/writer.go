package print

import (
	"strings"

	"cadastre/api"
)

// writer is a text on its way, and its last token. Its methods each write one thing that may be.
type writer struct {
	text []byte
	last string
}

// put writes rows of tokens: words and marks, with blanks between them.
func (w *writer) put(rows ...string) {
	for _, row := range rows {
		for _, t := range strings.Fields(row) {
			w.token(t)
		}
	}
}

// token knows a mark by its bytes: what stands for a value has others, even if the value has the same.
func (w *writer) token(t string) {
	if w.last != "" && !isTight(w.last, t) {
		w.text = append(w.text, ' ')
	}
	w.text = append(w.text, t...)
	w.last = t
}

// isTight tells whether no blank stands between the tokens a and b.
func isTight(a, b string) bool {
	switch {
	case a == "(", a == ".":
		return true
	case b == ")", b == ".", b == ",":
		return true
	}
	return b == "(" && isFunctionWord(a)
}

func isFunctionWord(s string) bool {
	switch s {
	case "length", "typeof", "count", "sum", "min", "max":
		return true
	}
	return false
}

// list writes items, with commas between them.
func list[T any](w *writer, l []T, item func(T)) {
	for i, x := range l {
		if i > 0 {
			w.put(",")
		}
		item(x)
	}
}

func inParentheses[T any](w *writer, l []T, item func(T)) {
	w.put("(")
	list(w, l, item)
	w.put(")")
}

// statement goes from piece to piece: behind those that its kind alone has to those that it shares with others, until there is no more.
func (w *writer) statement(s api.Stmt) {
	switch s.Kind {
	case api.StmtTable:
		w.put("create table", s.Name)
		inParentheses(w, s.Cols, w.column)
	case api.StmtVirtual:
		w.put("create virtual table", s.Name, "using rtree")
		inParentheses(w, s.Cols, w.boxColumn)
	case api.StmtIndex:
		w.index(s)
	case api.StmtDropTable:
		w.put("drop table", s.Name)
	case api.StmtDropIndex:
		w.put("drop index", s.Name)
	case api.StmtInsert:
		w.put("insert into", s.Table, "values")
		list(w, s.Rows, w.row)
	case api.StmtDelete:
		w.put("delete from", s.Table)
		goto where
	case api.StmtUpdate:
		w.put("update", s.Table, "set")
		list(w, s.Sets, w.set)
		goto where
	case api.StmtSelect:
		w.put("select")
		goto out
	case api.StmtBegin:
		w.put("begin")
	case api.StmtCommit:
		w.put("commit")
	case api.StmtRollback:
		w.put("rollback")
	}
	return

out:
	if s.Star {
		w.put("*")
	}
	list(w, s.Out, w.expr)
	w.put("from")
	list(w, s.From, w.name)

where:
	if len(s.Where) == 0 {
		goto order
	}
	w.put("where")
	list(w, s.Where, w.expr)

order:
	if len(s.Order) == 0 {
		return
	}
	w.put("order by")
	list(w, s.Order, w.key)
}

func (w *writer) index(s api.Stmt) {
	w.put("create")
	if s.Unique {
		w.put("unique")
	}
	w.put("index", s.Name, "on", s.Table)
	inParentheses(w, s.Names, w.name)
}

func (w *writer) name(s string) { w.token(s) }

func (w *writer) column(c api.Column) {
	w.put(c.Name, typeWord(c.Type))
	if c.NotNull {
		w.put("not null")
	}
}

func typeWord(t int) string {
	switch t {
	case api.TypeInt:
		return "integer"
	case api.TypeText:
		return "text"
	case api.TypeBlob:
		return "blob"
	}
	return "any"
}

// boxColumn leaves out what a tree of boxes has always.
func (w *writer) boxColumn(c api.Column) { w.name(c.Name) }

func (w *writer) row(l []api.Expr) { inParentheses(w, l, w.expr) }

func (w *writer) set(s api.Set) {
	w.put(s.Name, "=")
	w.expr(s.E)
}

func (w *writer) key(o api.Order) {
	w.expr(o.E)
	if o.Desc {
		w.put("desc")
	}
}

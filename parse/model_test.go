package parse

import (
	"slices"
	"strings"

	"cadastre/api"
	"cadastre/lex"
)

// rule is one of the chapter's, spelt with symbols: those of grammar that begin with a capital letter stand for their rules, NAME, INT, TEXT and BLOB for such tokens, all others for themselves. Each stands for at least one token.
type rule struct {
	symbols []string
	build   func(parts []any) any
}

type rules map[string][]rule

func (g rules) add(symbol, symbols string, build func([]any) any) {
	g[symbol] = append(g[symbol], rule{strings.Fields(symbols), build})
}

func first(l []any) any { return l[0] }

func expression(l []any, i int) api.Expr { return l[i].(api.Expr) }

func lit(v api.Value) api.Expr { return api.Expr{Op: api.OpLit, Val: v} }

func inner(op int, places ...int) func([]any) any {
	return func(l []any) any {
		e := api.Expr{Op: op}
		for _, i := range places {
			e.Args = append(e.Args, expression(l, i))
		}
		return e
	}
}

// listRules: items with commas between them.
func listRules[T any](g rules, symbol, item string) {
	g.add(symbol, item, func(l []any) any { return []T{l[0].(T)} })
	g.add(symbol, symbol+" , "+item, func(l []any) any { return slices.Concat(l[0].([]T), []T{l[2].(T)}) })
}

func addExpressions(g rules) {
	g.add("Or", "And", first)
	g.add("Or", "Or or And", inner(api.OpOr, 0, 2))
	g.add("And", "Not", first)
	g.add("And", "And and Not", inner(api.OpAnd, 0, 2))
	g.add("Not", "Test", first)
	g.add("Not", "not Not", inner(api.OpNot, 1))
	g.add("Test", "Sum", first)
	for op, sign := range map[int]string{api.OpEq: "=", api.OpNe: "<>", api.OpLt: "<", api.OpLe: "<=", api.OpGt: ">", api.OpGe: ">="} {
		g.add("Test", "Test "+sign+" Sum", inner(op, 0, 2))
	}
	g.add("Test", "Test is null", inner(api.OpIsNull, 0))
	g.add("Test", "Test is not null", inner(api.OpNotNull, 0))
	g.add("Sum", "Product", first)
	g.add("Sum", "Sum + Product", inner(api.OpAdd, 0, 2))
	g.add("Sum", "Sum - Product", inner(api.OpSub, 0, 2))
	g.add("Product", "Chain", first)
	g.add("Product", "Product * Chain", inner(api.OpMul, 0, 2))
	g.add("Product", "Product / Chain", inner(api.OpDiv, 0, 2))
	g.add("Product", "Product % Chain", inner(api.OpMod, 0, 2))
	g.add("Chain", "Minus", first)
	g.add("Chain", "Chain || Minus", inner(api.OpConcat, 0, 2))
	g.add("Minus", "Closest", first)
	g.add("Minus", "- Minus", inner(api.OpNeg, 1))
}

func addClosest(g rules) {
	g.add("Closest", "( Or )", func(l []any) any { return l[1] })
	g.add("Closest", "INT", func(l []any) any { return lit(api.Value{Kind: api.KindInt, Int: l[0].(api.Token).Int}) })
	g.add("Closest", "TEXT", func(l []any) any { return lit(api.Value{Kind: api.KindText, Str: l[0].(api.Token).Text}) })
	g.add("Closest", "BLOB", func(l []any) any { return lit(api.Value{Kind: api.KindBlob, Str: l[0].(api.Token).Text}) })
	g.add("Closest", "null", func(l []any) any { return lit(api.Value{}) })
	g.add("Closest", "Name", func(l []any) any { return api.Expr{Op: api.OpCol, Name: l[0].(string)} })
	g.add("Closest", "Name . Name", func(l []any) any { return api.Expr{Op: api.OpCol, Table: l[0].(string), Name: l[2].(string)} })
	g.add("Closest", "count ( * )", inner(api.OpCount))
	for op, word := range map[int]string{api.OpLength: "length", api.OpTypeof: "typeof", api.OpSum: "sum", api.OpMin: "min", api.OpMax: "max"} {
		g.add("Closest", word+" ( Or )", inner(op, 2))
	}
}

func addColumns(g rules) {
	for t, word := range map[int]string{api.TypeNone: "", api.TypeAny: "any", api.TypeInt: "integer", api.TypeText: "text", api.TypeBlob: "blob"} {
		t = max(t, api.TypeAny)
		g.add("Col", "Name "+word, func(l []any) any { return api.Column{Name: l[0].(string), Type: t} })
		g.add("Col", "Name "+word+" not null", func(l []any) any { return api.Column{Name: l[0].(string), Type: t, NotNull: true} })
	}
	listRules[api.Column](g, "Cols", "Col")
}

func boxColumns(l []any) any {
	s := api.Stmt{Kind: api.StmtVirtual, Name: l[3].(string)}
	for i := 7; i < len(l); i += 2 {
		s.Cols = append(s.Cols, api.Column{Name: l[i].(string), Type: api.TypeInt, NotNull: true})
	}
	return s
}

func addDefinitions(g rules) {
	g.add("Stmt", "create table Name ( Cols )", func(l []any) any {
		return api.Stmt{Kind: api.StmtTable, Name: l[2].(string), Cols: l[4].([]api.Column)}
	})
	g.add("Stmt", "create virtual table Name using rtree ( Name , Name , Name , Name , Name )", boxColumns)
	g.add("Stmt", "create index Name on Name ( Names )", func(l []any) any {
		return api.Stmt{Kind: api.StmtIndex, Name: l[2].(string), Table: l[4].(string), Names: l[6].([]string)}
	})
	g.add("Stmt", "create unique index Name on Name ( Names )", func(l []any) any {
		return api.Stmt{Kind: api.StmtIndex, Name: l[3].(string), Table: l[5].(string), Unique: true, Names: l[7].([]string)}
	})
	for kind, what := range map[int]string{api.StmtDropTable: "table", api.StmtDropIndex: "index"} {
		g.add("Stmt", "drop "+what+" Name", func(l []any) any { return api.Stmt{Kind: kind, Name: l[2].(string)} })
	}
	for kind, word := range map[int]string{api.StmtBegin: "begin", api.StmtCommit: "commit", api.StmtRollback: "rollback"} {
		g.add("Stmt", word, func([]any) any { return api.Stmt{Kind: kind} })
	}
}

// addWheres: what ends with where, if it has one.
func addWheres(g rules, symbol, symbols string, build func([]any) any) {
	g.add(symbol, symbols, build)
	g.add(symbol, symbols+" where Or", func(l []any) any {
		s := build(l).(api.Stmt)
		s.Where = []api.Expr{expression(l, len(l)-1)}
		return s
	})
}

func addChanges(g rules) {
	g.add("Row", "( Exprs )", func(l []any) any { return l[1] })
	listRules[[]api.Expr](g, "Rows", "Row")
	g.add("Stmt", "insert into Name values Rows", func(l []any) any {
		return api.Stmt{Kind: api.StmtInsert, Table: l[2].(string), Rows: l[4].([][]api.Expr)}
	})
	addWheres(g, "Stmt", "delete from Name", func(l []any) any { return api.Stmt{Kind: api.StmtDelete, Table: l[2].(string)} })
	g.add("Set", "Name = Or", func(l []any) any { return api.Set{Name: l[0].(string), E: expression(l, 2)} })
	listRules[api.Set](g, "Sets", "Set")
	addWheres(g, "Stmt", "update Name set Sets", func(l []any) any {
		return api.Stmt{Kind: api.StmtUpdate, Table: l[1].(string), Sets: l[3].([]api.Set)}
	})
}

func addSelects(g rules) {
	addWheres(g, "Select", "select * from Names", func(l []any) any {
		return api.Stmt{Kind: api.StmtSelect, Star: true, From: l[3].([]string)}
	})
	addWheres(g, "Select", "select Exprs from Names", func(l []any) any {
		return api.Stmt{Kind: api.StmtSelect, Out: l[1].([]api.Expr), From: l[3].([]string)}
	})
	g.add("Key", "Or", func(l []any) any { return api.Order{E: expression(l, 0)} })
	g.add("Key", "Or desc", func(l []any) any { return api.Order{E: expression(l, 0), Desc: true} })
	listRules[api.Order](g, "Keys", "Key")
	g.add("Stmt", "Select", first)
	g.add("Stmt", "Select order by Keys", func(l []any) any {
		s := l[0].(api.Stmt)
		s.Order = l[3].([]api.Order)
		return s
	})
}

func grammar() rules {
	g := rules{}
	g.add("Text", "Stmt", first)
	g.add("Text", "Stmt ;", first)
	g.add("Name", "NAME", func(l []any) any { return l[0].(api.Token).Text })
	listRules[string](g, "Names", "Name")
	listRules[api.Expr](g, "Exprs", "Or")
	addExpressions(g)
	addClosest(g)
	addColumns(g)
	addDefinitions(g)
	addChanges(g)
	addSelects(g)
	return g
}

// chapterWords are the key words, as the chapter spells them.
const chapterWords = "any and begin blob by commit count create delete desc drop from index insert integer into is length max min not null on or order rollback rtree select set sum table text typeof unique update using values virtual where"

type span struct {
	symbol   string
	from, to int
}

// readings finds all readings of a row of tokens, of each span as each symbol; of more than two alike places it keeps two.
type readings struct {
	grammar rules
	words   []string
	tokens  []api.Token
	known   map[span][]any
}

func (r *readings) token(symbol string, t api.Token) bool {
	switch symbol {
	case "NAME":
		return t.Kind == api.TokWord && !slices.Contains(r.words, t.Text)
	case "INT":
		return t.Kind == api.TokInt
	case "TEXT":
		return t.Kind == api.TokText
	case "BLOB":
		return t.Kind == api.TokBlob
	}
	return (t.Kind == api.TokWord || t.Kind == api.TokMark) && t.Text == symbol
}

func (r *readings) as(symbol string, from, to int) []any {
	list, ok := r.grammar[symbol]
	if !ok {
		if to == from+1 && r.token(symbol, r.tokens[from]) {
			return []any{r.tokens[from]}
		}
		return nil
	}
	k := span{symbol, from, to}
	if l, ok := r.known[k]; ok {
		return l
	}
	var l []any
	for _, rule := range list {
		for _, parts := range r.row(rule.symbols, from, to) {
			l = append(l, rule.build(parts))
		}
	}
	r.known[k] = l[:min(len(l), 2)]
	return r.known[k]
}

func (r *readings) row(symbols []string, from, to int) [][]any {
	if len(symbols) == 0 {
		if from == to {
			return [][]any{nil}
		}
		return nil
	}
	last := to - len(symbols) + 1
	least := from + 1
	if _, ok := r.grammar[symbols[0]]; !ok {
		last = min(last, from+1)
	}
	if len(symbols) == 1 {
		least = to
	}
	var l [][]any
	for k := least; k <= last; k++ {
		for _, head := range r.as(symbols[0], from, k) {
			for _, tail := range r.row(symbols[1:], k, to) {
				l = append(l, append([]any{head}, tail...))
			}
		}
	}
	return l
}

type model struct{ readings }

func newModel() *model {
	return &model{readings{grammar: grammar(), words: strings.Fields(chapterWords)}}
}

// statement: the chapter's grammar, any reading of it. It panics, if there are two.
func (m *model) statement(tokens []api.Token) (api.Stmt, bool) {
	m.tokens, m.known = tokens, map[span][]any{}
	if len(tokens) == 0 {
		return api.Stmt{}, false
	}
	l := m.as("Text", 0, len(tokens))
	if len(l) > 1 {
		panic("two readings")
	}
	if len(l) == 0 {
		return api.Stmt{}, false
	}
	return l[0].(api.Stmt), true
}

func (m *model) parse(s string) (api.Stmt, api.Errno) {
	tokens, e := lex.Tokens(s)
	if e != api.OK {
		return api.Stmt{}, e
	}
	stmt, ok := m.statement(tokens)
	if !ok {
		return api.Stmt{}, api.ErrForm
	}
	if beyond(stmt, tokens) {
		return api.Stmt{}, api.ErrLimit
	}
	return stmt, api.OK
}

// depth is that of an expression's parentheses: all there are, without those of the list that they stand in. Where there are other lists, there are no expressions.
func depth(stmt api.Stmt, tokens []api.Token) int {
	now, most := 0, 0
	for _, t := range tokens {
		switch {
		case t.Kind != api.TokMark:
		case t.Text == "(":
			now++
			most = max(most, now)
		case t.Text == ")":
			now--
		}
	}
	switch stmt.Kind {
	case api.StmtInsert:
		return most - 1
	case api.StmtDelete, api.StmtUpdate, api.StmtSelect:
		return most
	}
	return 0
}

func height(e api.Expr) int {
	h := 0
	for _, a := range e.Args {
		h = max(h, height(a))
	}
	return h + 1
}

func nodes(e api.Expr) int {
	n := 1
	for _, a := range e.Args {
		n += nodes(a)
	}
	return n
}

func beyond(s api.Stmt, tokens []api.Token) bool {
	lists := []int{len(s.Cols), len(s.Names), len(s.Sets), len(s.Out), len(s.Order)}
	all := slices.Concat(s.Out, s.Where)
	for _, r := range s.Rows {
		lists = append(lists, len(r))
		all = append(all, r...)
	}
	for _, x := range s.Sets {
		all = append(all, x.E)
	}
	for _, o := range s.Order {
		all = append(all, o.E)
	}
	count, highest := 0, 0
	for _, e := range all {
		count += nodes(e)
		highest = max(highest, height(e))
	}
	return slices.Max(lists) > 16 || len(s.From) > 3 || count > 200 || highest > 20 || depth(s, tokens) > 20
}

package parse

import (
	"encoding/hex"
	"math/rand"
	"slices"
	"strconv"
	"strings"
	"testing"

	"cadastre/api"
	"cadastre/lex"
)

// some makes statements, and texts of them.
type some struct{ *rand.Rand }

func (r some) of(l []string) string { return l[r.Intn(len(l))] }

func (r some) name() string {
	return r.of([]string{"a", "b", "t", "u", "rowid", "_", "x", "x1", "nulls", strings.Repeat("z", api.MaxName)})
}

func (r some) literal() api.Expr {
	switch r.Intn(4) {
	case 0:
		return num(r.Int63() >> r.Intn(63))
	case 1:
		return str(r.of([]string{"", "a", "'", "it's", "null", "(", "--", "\x00\xff\n", ";"}))
	case 2:
		return blob(r.of([]string{"", "\x00", "abc", "\xff'"}))
	}
	return null()
}

// expr tells an expression of at most that height, of any operation.
func (r some) expr(high int) api.Expr {
	n := r.Intn(api.OpMax) + 1
	switch {
	case n == api.OpCount:
		return op(n)
	case n == api.OpLit, high == 1 && r.Intn(2) == 0:
		return r.literal()
	case n == api.OpCol && r.Intn(2) == 0:
		return col(r.name() + "." + r.name())
	case n == api.OpCol, high == 1:
		return col(r.name())
	case n == api.OpNeg, n == api.OpNot, n == api.OpIsNull, n == api.OpNotNull, n == api.OpLength, n == api.OpTypeof, n == api.OpSum, n == api.OpMin, n == api.OpMax:
		return op(n, r.expr(high-1))
	}
	return op(n, r.expr(high-1), r.expr(high-1))
}

func few[T any](r some, most int, item func() T) []T {
	var l []T
	for n := r.Intn(most) + 1; n > 0; n-- {
		l = append(l, item())
	}
	return l
}

func (r some) short() api.Expr { return r.expr(r.Intn(5) + 1) }

func (r some) column() api.Column {
	return api.Column{Name: r.name(), Type: r.Intn(4) + api.TypeAny, NotNull: r.Intn(2) == 0}
}

func (r some) box() api.Column {
	return api.Column{Name: r.name(), Type: api.TypeInt, NotNull: true}
}

func (r some) where() []api.Expr {
	if r.Intn(2) == 0 {
		return nil
	}
	return exprs(r.expr(r.Intn(7) + 1))
}

func (r some) stmt() api.Stmt {
	s := api.Stmt{Kind: r.Intn(api.StmtRollback) + 1}
	switch s.Kind {
	case api.StmtTable:
		s.Name, s.Cols = r.name(), few(r, 18, r.column)
	case api.StmtVirtual:
		s.Name, s.Cols = r.name(), []api.Column{r.box(), r.box(), r.box(), r.box(), r.box()}
	case api.StmtIndex:
		s.Name, s.Table, s.Unique, s.Names = r.name(), r.name(), r.Intn(2) == 0, few(r, 18, r.name)
	case api.StmtDropTable, api.StmtDropIndex:
		s.Name = r.name()
	case api.StmtInsert:
		s.Table, s.Rows = r.name(), few(r, 3, func() []api.Expr { return few(r, 5, r.short) })
	case api.StmtDelete:
		s.Table, s.Where = r.name(), r.where()
	case api.StmtUpdate:
		s.Table, s.Where = r.name(), r.where()
		s.Sets = few(r, 5, func() api.Set { return api.Set{Name: r.name(), E: r.short()} })
	case api.StmtSelect:
		s.From, s.Where = few(r, 4, r.name), r.where()
		if s.Star = r.Intn(3) == 0; !s.Star {
			s.Out = few(r, 6, r.short)
		}
		if r.Intn(2) == 0 {
			s.Order = few(r, 3, func() api.Order { return api.Order{E: r.short(), Desc: r.Intn(2) == 0} })
		}
	}
	return s
}

// spell tells the tokens of e, where operations of that level and closer ones may stand without parentheses; some of them stand in more than they need.
func (r some) spell(e api.Expr, level int) []string {
	own := levelOf(e.Op)
	if own < level || r.Intn(8) == 0 {
		return slices.Concat([]string{"("}, r.spell(e, 0), []string{")"})
	}
	switch {
	case e.Op == api.OpCount:
		return []string{"count", "(", "*", ")"}
	case e.Op == api.OpCol && e.Table != "":
		return []string{e.Table, ".", e.Name}
	case e.Op == api.OpCol:
		return []string{e.Name}
	case e.Op == api.OpLit:
		return []string{spellValue(e.Val)}
	case own == len(joins()):
		return slices.Concat([]string{spelt(e.Op), "("}, r.spell(e.Args[0], 0), []string{")"})
	case e.Op == api.OpNot, e.Op == api.OpNeg:
		return slices.Concat([]string{spelt(e.Op)}, r.spell(e.Args[0], own))
	}
	l := slices.Concat(r.spell(e.Args[0], own), strings.Fields(spelt(e.Op)))
	for _, a := range e.Args[1:] {
		l = append(l, r.spell(a, own+1)...)
	}
	return l
}

func spellValue(v api.Value) string {
	switch v.Kind {
	case api.KindInt:
		return strconv.FormatInt(v.Int, 10)
	case api.KindText:
		return "'" + strings.ReplaceAll(v.Str, "'", "''") + "'"
	case api.KindBlob:
		return "x'" + hex.EncodeToString([]byte(v.Str)) + "'"
	}
	return "null"
}

// spellList puts commas between items.
func spellList[T any](l []T, item func(T) []string) []string {
	var all []string
	for i, x := range l {
		if i > 0 {
			all = append(all, ",")
		}
		all = append(all, item(x)...)
	}
	return all
}

func inParens(l []string) []string { return slices.Concat([]string{"("}, l, []string{")"}) }

func one(s string) []string { return []string{s} }

func (r some) spellExpr(e api.Expr) []string { return r.spell(e, 0) }

func (r some) spellColumn(c api.Column) []string {
	l := []string{c.Name}
	if c.Type != api.TypeAny || r.Intn(2) == 0 {
		l = append(l, []string{"any", "integer", "text", "blob"}[c.Type-api.TypeAny])
	}
	if c.NotNull {
		l = append(l, "not", "null")
	}
	return l
}

func (r some) spellKey(o api.Order) []string {
	if o.Desc {
		return append(r.spellExpr(o.E), "desc")
	}
	return r.spellExpr(o.E)
}

func (r some) spellStmt(s api.Stmt) []string {
	var l []string
	switch s.Kind {
	case api.StmtTable:
		l = slices.Concat([]string{"create", "table", s.Name}, inParens(spellList(s.Cols, r.spellColumn)))
	case api.StmtVirtual:
		l = slices.Concat([]string{"create", "virtual", "table", s.Name, "using", "rtree"}, inParens(spellList(s.Cols, func(c api.Column) []string { return one(c.Name) })))
	case api.StmtIndex:
		l = slices.Concat([]string{"create", "index", s.Name, "on", s.Table}, inParens(spellList(s.Names, one)))
		if s.Unique {
			l = slices.Insert(l, 1, "unique")
		}
	case api.StmtDropTable, api.StmtDropIndex:
		l = []string{"drop", map[int]string{api.StmtDropTable: "table", api.StmtDropIndex: "index"}[s.Kind], s.Name}
	case api.StmtInsert:
		l = append([]string{"insert", "into", s.Table, "values"}, spellList(s.Rows, func(row []api.Expr) []string { return inParens(spellList(row, r.spellExpr)) })...)
	case api.StmtDelete:
		l = []string{"delete", "from", s.Table}
	case api.StmtUpdate:
		l = append([]string{"update", s.Table, "set"}, spellList(s.Sets, func(x api.Set) []string { return append([]string{x.Name, "="}, r.spellExpr(x.E)...) })...)
	case api.StmtSelect:
		l = append([]string{"select"}, spellList(s.Out, r.spellExpr)...)
		if s.Star {
			l = append(l, "*")
		}
		l = slices.Concat(l, one("from"), spellList(s.From, one))
	default:
		return one([]string{"begin", "commit", "rollback"}[s.Kind-api.StmtBegin])
	}
	for _, e := range s.Where {
		l = slices.Concat(l, one("where"), r.spellExpr(e))
	}
	if len(s.Order) > 0 {
		l = slices.Concat(l, []string{"order", "by"}, spellList(s.Order, r.spellKey))
	}
	return l
}

// lay tells a text of the tokens, with any blanks between them and any letters of words as capitals; ; at the end or not.
func (r some) lay(l []string) string {
	if r.Intn(2) == 0 {
		l = append(slices.Clone(l), ";")
	}
	var b strings.Builder
	for _, s := range l {
		if c := s[0]; c != '\'' && r.Intn(3) == 0 {
			s = strings.ToUpper(s)
		}
		b.WriteString(s)
		b.WriteString(r.of([]string{" ", " ", "\n", "\t\r ", " -- or ;\n"}))
	}
	return b.String()
}

// TestRandom: whatever text a statement has, with or without ;, with as many parentheses as it needs or more, it is that statement, if it is within the limits (P20.2).
func TestRandom(t *testing.T) {
	r := some{rand.New(rand.NewSource(20))}
	told := map[api.Errno]int{}
	kinds := map[int]int{}
	for n := 0; n < 20000 && !t.Failed(); n++ {
		s := r.stmt()
		for range 2 {
			text := r.lay(r.spellStmt(s))
			tokens, e := lex.Tokens(text)
			if e == api.OK && beyond(s, tokens) {
				e = api.ErrLimit
			}
			told[e]++
			if e != api.OK {
				wantErr(t, text, e)
				continue
			}
			kinds[s.Kind]++
			wantStmt(t, text, s)
		}
	}
	if len(kinds) != api.StmtRollback || told[api.OK] < 20000 || told[api.ErrLimit] < 200 || len(told) > 2 {
		t.Errorf("%v, %v", told, kinds)
	}
}

// TestRandomAside: any statement with some tokens aside is read as by the model.
func TestRandomAside(t *testing.T) {
	r := some{rand.New(rand.NewSource(202))}
	m := newModel()
	told := map[api.Errno]int{}
	for n := 0; n < 6000 && !t.Failed(); n++ {
		l := r.spellStmt(r.stmt())
		if len(l) > 40 {
			continue
		}
		for k := r.Intn(3); k > 0; k-- {
			i := r.Intn(len(l))
			l[i] = r.of(append(l, tokens()...))
		}
		s := strings.Join(l, " ")
		_, e := m.parse(s)
		told[e]++
		wantModel(t, m, s)
	}
	if told[api.OK] < 500 || told[api.ErrForm] < 500 {
		t.Errorf("%v", told)
	}
}

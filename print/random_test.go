package print

import (
	"math/rand"
	"reflect"
	"slices"
	"strings"
	"testing"

	"cadastre/api"
	"cadastre/lex"
	"cadastre/parse"
)

// some makes statements, and texts of them.
type some struct{ *rand.Rand }

func (r some) of(l ...string) string { return l[r.Intn(len(l))] }

func (r some) name() string {
	return r.of("a", "b", "t", "u", "rowid", "_", "x", "x1", "nulls", strings.Repeat("z", api.MaxName))
}

func (r some) literal() api.Expr {
	switch r.Intn(4) {
	case 0:
		return num(r.Int63() >> r.Intn(63))
	case 1:
		return str(r.of("", "a", "'", "it's", "null", "(", "--", "\x00\xff\n", ";"))
	case 2:
		return blob(r.of("", "\x00", "abc", "\xff'"))
	}
	return null()
}

// expr tells an expression of at most that height, of any operation.
func (r some) expr(high int) api.Expr {
	n := r.Intn(api.OpMax) + 1
	switch {
	case n == api.OpCount:
		return op(n)
	case n == api.OpLit, high == 1 && r.Intn(2) == 0:
		return r.literal()
	case n == api.OpCol && r.Intn(2) == 0:
		return col(r.name() + "." + r.name())
	case n == api.OpCol, high == 1:
		return col(r.name())
	case countOf(n) == 1:
		return op(n, r.expr(high-1))
	}
	return op(n, r.expr(high-1), r.expr(high-1))
}

func few[T any](r some, most int, item func() T) []T {
	var l []T
	for n := r.Intn(most) + 1; n > 0; n-- {
		l = append(l, item())
	}
	return l
}

func (r some) short() api.Expr { return r.expr(r.Intn(5) + 1) }

func (r some) column() api.Column {
	return api.Column{Name: r.name(), Type: r.Intn(4) + api.TypeAny, NotNull: r.Intn(2) == 0}
}

func (r some) where() []api.Expr {
	if r.Intn(2) == 0 {
		return nil
	}
	return exprs(r.expr(r.Intn(7) + 1))
}

func (r some) stmt() api.Stmt {
	s := api.Stmt{Kind: r.Intn(api.StmtRollback) + 1}
	switch s.Kind {
	case api.StmtTable:
		s.Name, s.Cols = r.name(), few(r, 16, r.column)
	case api.StmtVirtual:
		s.Name, s.Cols = r.name(), boxes(r.name(), r.name(), r.name(), r.name(), r.name())
	case api.StmtIndex:
		s.Name, s.Table, s.Unique, s.Names = r.name(), r.name(), r.Intn(2) == 0, few(r, 16, r.name)
	case api.StmtDropTable, api.StmtDropIndex:
		s.Name = r.name()
	case api.StmtInsert:
		s.Table, s.Rows = r.name(), few(r, 3, func() []api.Expr { return few(r, 5, r.short) })
	case api.StmtDelete:
		s.Table, s.Where = r.name(), r.where()
	case api.StmtUpdate:
		s.Table, s.Where = r.name(), r.where()
		s.Sets = few(r, 5, func() api.Set { return api.Set{Name: r.name(), E: r.short()} })
	case api.StmtSelect:
		s.From, s.Where = few(r, 3, r.name), r.where()
		if s.Star = r.Intn(3) == 0; !s.Star {
			s.Out = few(r, 6, r.short)
		}
		if r.Intn(2) == 0 {
			s.Order = few(r, 3, func() api.Order { return api.Order{E: r.short(), Desc: r.Intn(2) == 0} })
		}
	}
	return s
}

// levelOf tells how close an operation is, by chapter 20.
func levelOf(n int) int {
	levels := [][]int{{api.OpOr}, {api.OpAnd}, {api.OpNot}, {api.OpEq, api.OpNe, api.OpLt, api.OpLe, api.OpGt, api.OpGe, api.OpIsNull, api.OpNotNull}, {api.OpAdd, api.OpSub}, {api.OpMul, api.OpDiv, api.OpMod}, {api.OpConcat}, {api.OpNeg}}
	i := slices.IndexFunc(levels, func(l []int) bool { return slices.Contains(l, n) })
	if i < 0 {
		return len(levels)
	}
	return i
}

// spell tells a text of e, where operations of that level and closer ones may stand without parentheses; some stand in more of them than they need.
func (r some) spell(e api.Expr, level int) string {
	own := levelOf(e.Op)
	if own < level || r.Intn(8) == 0 {
		return " ( " + r.spell(e, 0) + " ) "
	}
	s, ok := signs()[e.Op]
	switch {
	case len(e.Args) == 0:
		return " " + exprText(e) + " "
	case !ok:
		word, _, _ := strings.Cut(functions()[e.Op], "(")
		return " " + word + " ( " + r.spell(e.Args[0], 0) + " ) "
	case strings.HasSuffix(s, "b"):
		return " " + strings.TrimSuffix(s, "b") + " " + r.spell(e.Args[0], own)
	}
	s = r.spell(e.Args[0], own) + strings.TrimSuffix(strings.TrimPrefix(s, "b"), "c")
	for _, a := range e.Args[1:] {
		s += r.spell(a, own+1)
	}
	return s
}

// otherwise tells a text of s with other parentheses than its own.
func (r some) otherwise(s api.Stmt) string {
	marked := s
	var texts []string
	mark := func(e api.Expr) api.Expr {
		texts = append(texts, r.spell(e, 0))
		return col("MARK")
	}
	markAll := func(l []api.Expr) []api.Expr {
		var all []api.Expr
		for _, e := range l {
			all = append(all, mark(e))
		}
		return all
	}
	marked.Rows, marked.Sets, marked.Order = nil, nil, nil
	for _, row := range s.Rows {
		marked.Rows = append(marked.Rows, markAll(row))
	}
	for _, x := range s.Sets {
		marked.Sets = append(marked.Sets, api.Set{Name: x.Name, E: mark(x.E)})
	}
	marked.Out, marked.Where = markAll(s.Out), markAll(s.Where)
	for _, o := range s.Order {
		marked.Order = append(marked.Order, api.Order{E: mark(o.E), Desc: o.Desc})
	}
	text := stmtText(marked)
	for _, x := range texts {
		text = strings.Replace(text, "MARK", x, 1)
	}
	return text
}

// lay tells the tokens of a text with other blanks between them, other letters of words, != for <>, or ; at the end.
func (r some) lay(text string) string {
	var b strings.Builder
	tokens, _ := lex.Tokens(text)
	if r.Intn(2) == 0 {
		tokens = append(tokens, api.Token{Kind: api.TokMark, Text: ";"})
	}
	for _, t := range tokens {
		s := t.Text
		switch {
		case t.Kind == api.TokInt:
			s = r.of("", "0", "00") + exprText(num(t.Int))
		case t.Kind == api.TokText:
			s = exprText(str(s))
		case t.Kind == api.TokBlob:
			s = exprText(blob(s))
			if r.Intn(2) == 0 {
				s = strings.ToUpper(s)
			}
		case s == "<>":
			s = r.of("<>", "!=")
		case r.Intn(3) == 0:
			s = strings.ToUpper(s)
		}
		b.WriteString(s + r.of(" ", " ", "\n", "\t\r ", " -- or ;\n"))
	}
	return b.String()
}

// TestRandom: Parse of Print is the statement; whatever other text it has, Print of Parse of that is the same (P21.3).
func TestRandom(t *testing.T) {
	r := some{rand.New(rand.NewSource(21))}
	kinds, others := map[int]int{}, 0
	for n := 0; n < 10000 && !t.Failed(); n++ {
		s := r.stmt()
		w := stmtText(s)
		if x, e := parse.Parse(w); e == api.ErrLimit {
			wantNone(t, s)
			continue
		} else if e != api.OK || !sameStmt(x, s) {
			t.Fatalf("%s: %v", w, e)
		}
		kinds[s.Kind]++
		wantText(t, s, w)
		for range 2 {
			text := r.lay(r.otherwise(s))
			x, e := parse.Parse(text)
			if e == api.ErrLimit {
				continue
			}
			others++
			if e != api.OK {
				t.Fatalf("%s: %v", text, e)
			}
			wantText(t, x, w)
		}
	}
	if len(kinds) != api.StmtRollback || others < 15000 {
		t.Errorf("%v, %d", kinds, others)
	}
}

// TestAllShort: whatever row of at most four tokens is an expression, what Parse makes of it may be, and its text is its own again.
func TestAllShort(t *testing.T) {
	tokens := strings.Fields("a 1 ( ) - not is null = <> * + || or and . length count , 'x' x'0A' A")
	rows := []string{""}
	told := 0
	for range 4 {
		var longer []string
		for _, row := range rows {
			for _, x := range tokens {
				longer = append(longer, row+" "+x)
			}
		}
		for _, row := range longer {
			s, e := parse.Parse("select" + row + " from t")
			if e != api.OK {
				continue
			}
			told++
			wantText(t, s, stmtText(s))
		}
		rows = longer
	}
	if told < 1500 {
		t.Errorf("%d", told)
	}
}

// TestSame: texts that mean the same have one text behind Parse, others have another.
func TestSame(t *testing.T) {
	for w, l := range map[string][]string{
		"select a from t":                        {"SELECT A FROM T;", "select(a)from t", "select ((a)) from t -- a"},
		"select a + b from t where a = 1":        {"select a+b from t where a=1", "select ((a)+(b)) from t where ((a)=(1));"},
		"select (a + b) + c from t":              {"select a+b+c from t", "select ((a+b))+c from t"},
		"select a + (b + c) from t":              {"select a+(b+c) from t"},
		"select a <> b from t":                   {"select a != b from t", "select a<>b from t"},
		"select length(a), count(*) from t":      {"select length ( a ) , count ( * ) from t", "select LENGTH((a)),(Count(*)) from t"},
		"create table t (a any, b any)":          {"create table t(a,b)", "create table t (a any, b)"},
		"insert into t values (1, x'ab'), (- 1)": {"insert into t values(01,X'AB'),(-1)", "insert into t values ((1),(x'aB')) , ((-(1)));"},
		"select - (- a) from t":                  {"select - - a from t", "select -(-a) from t"},
		"delete from t where not (a = b)":        {"delete from t where not a = b", "delete from t where not(a=b)"},
		"delete from t where (not a) = b":        {"delete from t where (not a) = b"},
	} {
		for _, s := range append(l, w) {
			x, e := parse.Parse(s)
			if e != api.OK {
				t.Fatalf("%s: %v", s, e)
			}
			wantText(t, x, w)
		}
	}
}

// roomy tells a copy of l with spare room, which holds more of the same.
func roomy[T any](l []T, more T) []T {
	if l == nil {
		return nil
	}
	room := append(slices.Clone(l), more, more)
	return room[:len(l)]
}

func roomyExprs(l []api.Expr) []api.Expr {
	l = slices.Clone(l)
	for i := range l {
		l[i].Args = roomyExprs(l[i].Args)
	}
	return roomy(l, str("spare"))
}

func roomyStmt(s api.Stmt) api.Stmt {
	rows := slices.Clone(s.Rows)
	for i := range rows {
		rows[i] = roomyExprs(rows[i])
	}
	sets := slices.Clone(s.Sets)
	for i := range sets {
		sets[i].E.Args = roomyExprs(sets[i].E.Args)
	}
	order := slices.Clone(s.Order)
	for i := range order {
		order[i].E.Args = roomyExprs(order[i].E.Args)
	}
	s.Rows, s.Sets, s.Order = roomy(rows, nil), roomy(sets, api.Set{Name: "spare"}), roomy(order, api.Order{Desc: true})
	s.Out, s.Where = roomyExprs(s.Out), roomyExprs(s.Where)
	s.Cols, s.Names, s.From = roomy(s.Cols, api.Column{Name: "spare"}), roomy(s.Names, "spare"), roomy(s.From, "spare")
	return s
}

// wholeExprs, whole: all that is held, with the spare room of lists.
func wholeExprs(l []api.Expr) []any {
	var all []any
	for _, e := range l[:cap(l)] {
		all = append(all, e.Op, e.Val, e.Table, e.Name, len(e.Args), wholeExprs(e.Args))
	}
	return all
}

func whole(s api.Stmt) []any {
	all := []any{s.Kind, s.Name, s.Table, s.Unique, s.Star, wholeExprs(s.Out), wholeExprs(s.Where)}
	all = append(all, slices.Clone(s.Cols[:cap(s.Cols)]), slices.Clone(s.Names[:cap(s.Names)]), slices.Clone(s.From[:cap(s.From)]))
	for _, row := range s.Rows[:cap(s.Rows)] {
		all = append(all, len(row), wholeExprs(row))
	}
	for _, x := range s.Sets[:cap(s.Sets)] {
		all = append(all, x.Name, wholeExprs(exprs(x.E)))
	}
	for _, o := range s.Order[:cap(s.Order)] {
		all = append(all, o.Desc, wholeExprs(exprs(o.E)))
	}
	return all
}

// TestHandedIn: what is handed in is not changed, spare room neither (R2); the same call tells the same (R4).
func TestHandedIn(t *testing.T) {
	r := some{rand.New(rand.NewSource(212))}
	for range 3000 {
		s := roomyStmt(r.stmt())
		before := whole(s)
		e := Check(s)
		text, f := Print(s)
		for range 2 {
			again, g := Print(s)
			if again != text || g != f || Check(s) != e {
				t.Fatalf("%s: %q, %v, then %q, %v", shown(s), text, f, again, g)
			}
		}
		for _, x := range s.Where {
			one, _ := Expr(x)
			two, _ := Expr(x)
			if one != two {
				t.Fatalf("%s: %q, then %q", shown(x), one, two)
			}
		}
		if !reflect.DeepEqual(whole(s), before) {
			t.Fatalf("%s changed", shown(s))
		}
	}
}

package parse

import "cadastre/api"

// Levels of operations, from the loosest on.
const (
	levelOr = iota
	levelAnd
	levelNot
	levelTest
	levelAdd
	levelMul
	levelConcat
	levelNeg
	levelClosest
)

// joints: what may stand behind an operation's first Arg.
var joints = [...]struct {
	level int
	signs string
	op    int
}{
	{levelOr, "or", api.OpOr},
	{levelAnd, "and", api.OpAnd},
	{levelTest, "=", api.OpEq},
	{levelTest, "<>", api.OpNe},
	{levelTest, "<", api.OpLt},
	{levelTest, "<=", api.OpLe},
	{levelTest, ">", api.OpGt},
	{levelTest, ">=", api.OpGe},
	{levelTest, "is null", api.OpIsNull},
	{levelTest, "is not null", api.OpNotNull},
	{levelAdd, "+", api.OpAdd},
	{levelAdd, "-", api.OpSub},
	{levelMul, "*", api.OpMul},
	{levelMul, "/", api.OpDiv},
	{levelMul, "%", api.OpMod},
	{levelConcat, "||", api.OpConcat},
}

// functions: those of one Arg.
var functions = [...]struct {
	signs string
	op    int
}{
	{"length (", api.OpLength},
	{"typeof (", api.OpTypeof},
	{"sum (", api.OpSum},
	{"min (", api.OpMin},
	{"max (", api.OpMax},
}

func (p *parser) expr(e *api.Expr) bool { return p.level(levelOr, e) }

// level reads an expression, outside of parentheses with operations of that level and closer ones alone.
func (p *parser) level(n int, e *api.Expr) bool {
	switch n {
	case levelNot:
		return p.signed("not", api.OpNot, n, e)
	case levelNeg:
		return p.signed("-", api.OpNeg, n, e)
	case levelClosest:
		return p.closest(e)
	}
	return p.joined(n, e)
}

func (p *parser) signed(sign string, op int, n int, e *api.Expr) bool {
	if !p.take(sign) {
		return p.level(n+1, e)
	}
	e.Op = op
	e.Args = make([]api.Expr, 1)
	return p.level(n, &e.Args[0])
}

// joined puts what it has read into the next operation as its first Arg: of two on one level the left one is closer.
func (p *parser) joined(n int, e *api.Expr) bool {
	ok := p.level(n+1, e)
	for ok {
		op := p.joint(n)
		if op == api.OpNone {
			return true
		}
		args := []api.Expr{*e}
		if op != api.OpIsNull && op != api.OpNotNull {
			args = append(args, api.Expr{})
			ok = p.level(n+1, &args[1])
		}
		*e = api.Expr{Op: op, Args: args}
	}
	return false
}

func (p *parser) joint(n int) int {
	for _, j := range joints {
		if j.level == n && p.take(j.signs) {
			return j.op
		}
	}
	return api.OpNone
}

func (p *parser) closest(e *api.Expr) bool {
	for _, f := range functions {
		if p.take(f.signs) {
			e.Op = f.op
			e.Args = make([]api.Expr, 1)
			return p.enclosed(p.expr, &e.Args[0])
		}
	}
	switch {
	case p.take("count ("):
		return p.enclosed(p.count, e)
	case p.take("("):
		return p.enclosed(p.expr, e)
	case p.take("null"):
		e.Op = api.OpLit
		return true
	}
	return p.literal(e) || p.place(e)
}

// enclosed reads what stands inside, and the ) behind it; the ( ahead of it has been passed.
func (p *parser) enclosed(inside func(*api.Expr) bool, e *api.Expr) bool {
	p.deep++
	p.deepest = max(p.deepest, p.deep)
	ok := inside(e) && p.take(")")
	p.deep--
	return ok
}

func (p *parser) count(e *api.Expr) bool {
	e.Op = api.OpCount
	return p.take("*")
}

func (p *parser) literal(e *api.Expr) bool {
	if len(p.rest) == 0 {
		return false
	}
	t := p.rest[0]
	switch t.Kind {
	case api.TokInt:
		e.Val = api.Value{Kind: api.KindInt, Int: t.Int}
	case api.TokText:
		e.Val = api.Value{Kind: api.KindText, Str: t.Text}
	case api.TokBlob:
		e.Val = api.Value{Kind: api.KindBlob, Str: t.Text}
	default:
		return false
	}
	e.Op = api.OpLit
	p.rest = p.rest[1:]
	return true
}

// place reads a column's name, or its table's ahead of it.
func (p *parser) place(e *api.Expr) bool {
	e.Op = api.OpCol
	if !p.name(&e.Name) {
		return false
	}
	if !p.take(".") {
		return true
	}
	e.Table = e.Name
	return p.name(&e.Name)
}

package print

import (
	"strconv"
	"strings"

	"cadastre/api"
)

// place stands for an Arg in a pattern.
const place = "_"

// patterns: of each operation its tokens and the places of its Args, with blanks between them. A literal and a column have none.
var patterns = [...]string{
	api.OpLit:     "",
	api.OpCol:     "",
	api.OpNeg:     "- _",
	api.OpNot:     "not _",
	api.OpIsNull:  "_ is null",
	api.OpNotNull: "_ is not null",
	api.OpLength:  "length ( _ )",
	api.OpTypeof:  "typeof ( _ )",
	api.OpMul:     "_ * _",
	api.OpDiv:     "_ / _",
	api.OpMod:     "_ % _",
	api.OpAdd:     "_ + _",
	api.OpSub:     "_ - _",
	api.OpConcat:  "_ || _",
	api.OpEq:      "_ = _",
	api.OpNe:      "_ <> _",
	api.OpLt:      "_ < _",
	api.OpLe:      "_ <= _",
	api.OpGt:      "_ > _",
	api.OpGe:      "_ >= _",
	api.OpAnd:     "_ and _",
	api.OpOr:      "_ or _",
	api.OpCount:   "count ( * )",
	api.OpSum:     "sum ( _ )",
	api.OpMin:     "min ( _ )",
	api.OpMax:     "max ( _ )",
}

// countArgs tells how many Args the operation has.
func countArgs(op int) int { return strings.Count(patterns[op], place) }

// isOpen tells whether op is an operation that is no function, and so has no parentheses round its Args.
func isOpen(op int) bool {
	pattern := patterns[op]
	return pattern != "" && !strings.HasSuffix(pattern, ")")
}

func (w *writer) expr(e api.Expr) {
	args := e.Args
	switch e.Op {
	case api.OpLit:
		w.token(literal(e.Val))
	case api.OpCol:
		w.columnOf(e.Table, e.Name)
	}
	for _, piece := range strings.Fields(patterns[e.Op]) {
		if piece != place {
			w.token(piece)
			continue
		}
		w.arg(e.Op, args[0])
		args = args[1:]
	}
}

func (w *writer) columnOf(table, name string) {
	if table != "" {
		w.put(table, ".")
	}
	w.name(name)
}

// arg writes an Arg of op.
func (w *writer) arg(op int, e api.Expr) {
	if isOpen(op) && isOpen(e.Op) {
		inParentheses(w, []api.Expr{e}, w.expr)
		return
	}
	w.expr(e)
}

// literal tells the token of a value, no integer below 0.
func literal(v api.Value) string {
	switch v.Kind {
	case api.KindInt:
		return strconv.FormatInt(v.Int, 10)
	case api.KindText:
		return "'" + strings.ReplaceAll(v.Str, "'", "''") + "'"
	case api.KindBlob:
		return "x'" + hex(v.Str) + "'"
	}
	return "null"
}

func hex(s string) string {
	const digits = "0123456789abcdef"
	var b []byte
	for i := range len(s) {
		b = append(b, digits[s[i]>>4], digits[s[i]&15])
	}
	return string(b)
}

package parse

import (
	"strings"

	"cadastre/api"
	"cadastre/words"
)

// parser is a row of tokens on its way to a statement: what is left of it, how many parentheses of expressions are open, and the most that were.
// Its methods each read one thing from what is left, and tell whether it stands there. Behind a false of take, name or literal all is as it was; behind one of another, the text is no statement, and what is left, or read, does not matter any more.
type parser struct {
	rest    []api.Token
	deep    int
	deepest int
}

// take passes the words and marks of the row, with blanks between them, if all of them stand there.
func (p *parser) take(row string) bool {
	signs := strings.Fields(row)
	if len(signs) > len(p.rest) {
		return false
	}
	for i, sign := range signs {
		if !stands(p.rest[i], sign) {
			return false
		}
	}
	p.rest = p.rest[len(signs):]
	return true
}

// stands tells whether t is this word or mark: a text of the same bytes is neither.
func stands(t api.Token, sign string) bool {
	return t.Text == sign && (t.Kind == api.TokWord || t.Kind == api.TokMark)
}

func (p *parser) name(s *string) bool {
	if len(p.rest) == 0 || p.rest[0].Kind != api.TokWord || !words.IsName(p.rest[0].Text) {
		return false
	}
	*s = p.rest[0].Text
	p.rest = p.rest[1:]
	return true
}

// list reads at least one item, with commas between them.
func list[T any](p *parser, l *[]T, item func(*T) bool) bool {
	for {
		var x T
		if !item(&x) {
			return false
		}
		*l = append(*l, x)
		if !p.take(",") {
			return true
		}
	}
}

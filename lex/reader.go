package lex

import (
	"strconv"
	"strings"

	"cadastre/api"
)

const (
	blanks    = "\t\n\r "
	digits    = "0123456789"
	hexDigits = "0123456789abcdef"
)

// reader is a text on its way to tokens: what is left of it, what is gathered of the token that it is in, the tokens that have ended, and whether one of them is too long.
// Its methods blank to pair each take one piece from what is left, if it begins with such a one, and tell whether it did.
type reader struct {
	rest     string
	gathered []byte
	tokens   []api.Token
	long     bool
}

func (r *reader) blank() bool {
	if r.rest == "" || strings.IndexByte(blanks, r.rest[0]) < 0 {
		return false
	}
	r.rest = r.rest[1:]
	return true
}

func (r *reader) pass(piece string) bool {
	if !strings.HasPrefix(r.rest, piece) {
		return false
	}
	r.rest = r.rest[len(piece):]
	return true
}

// beforeLineEnd leaves the line's end where it is: it is a blank.
func (r *reader) beforeLineEnd() bool {
	if r.rest == "" || r.rest[0] == '\n' {
		return false
	}
	r.rest = r.rest[1:]
	return true
}

// mark takes the longest one.
func (r *reader) mark() bool {
	for _, m := range [...]string{"||", "<>", "!=", "<=", ">=", "(", ")", ",", ".", ";", "*", "+", "-", "/", "%", "=", "<", ">"} {
		if !r.pass(m) {
			continue
		}
		if m == "!=" {
			m = "<>"
		}
		r.tokens = append(r.tokens, api.Token{Kind: api.TokMark, Text: m})
		return true
	}
	return false
}

func (r *reader) letter() bool {
	if r.rest == "" {
		return false
	}
	c := small(r.rest[0])
	if c != '_' && (c < 'a' || c > 'z') {
		return false
	}
	r.gather(c, 1)
	return true
}

func (r *reader) digit() bool {
	if r.rest == "" || strings.IndexByte(digits, r.rest[0]) < 0 {
		return false
	}
	r.gather(r.rest[0], 1)
	return true
}

// char takes a byte of a text; of two ' one counts, and a single one is the text's end.
func (r *reader) char() bool {
	if strings.HasPrefix(r.rest, "''") {
		r.gather('\'', 2)
		return true
	}
	if r.rest == "" || r.rest[0] == '\'' {
		return false
	}
	r.gather(r.rest[0], 1)
	return true
}

func (r *reader) pair() bool {
	if len(r.rest) < 2 {
		return false
	}
	high := strings.IndexByte(hexDigits, small(r.rest[0]))
	low := strings.IndexByte(hexDigits, small(r.rest[1]))
	if high < 0 || low < 0 {
		return false
	}
	r.gather(byte(high<<4|low), 2)
	return true
}

// gather puts c to the token, for the next n bytes of what is left.
func (r *reader) gather(c byte, n int) {
	r.gathered = append(r.gathered, c)
	r.rest = r.rest[n:]
}

// end makes what is gathered a token, of at most that many bytes.
func (r *reader) end(kind, most int) {
	if len(r.gathered) > most {
		r.long = true
	}
	r.tokens = append(r.tokens, api.Token{Kind: kind, Text: string(r.gathered)})
	r.gathered = r.gathered[:0]
}

// endInteger makes the digits that are gathered a token, and tells whether their number is an int64.
func (r *reader) endInteger() bool {
	n, err := strconv.ParseInt(string(r.gathered), 10, 64)
	r.tokens = append(r.tokens, api.Token{Kind: api.TokInt, Int: n})
	r.gathered = r.gathered[:0]
	return err == nil
}

// small tells a capital letter's small one, and any other byte itself.
func small(c byte) byte {
	if c >= 'A' && c <= 'Z' {
		return c - 'A' + 'a'
	}
	return c
}

package lex

import (
	"encoding/hex"
	"math/big"
	"regexp"
	"strings"

	"cadastre/api"
)

var (
	blankForm = regexp.MustCompile(`\A(?:[\t\n\r ]|--[^\n]*)`)
	blobForm  = regexp.MustCompile(`\A[xX]'((?:[0-9a-fA-F][0-9a-fA-F])*)'`)
	textForm  = regexp.MustCompile(`\A'((?:[^']|'')*)'`)
	wordForm  = regexp.MustCompile(`\A[a-zA-Z_][a-zA-Z_0-9]*`)
	intForm   = regexp.MustCompile(`\A[0-9]+`)
	markForm  = regexp.MustCompile(`\A(?:\|\||<>|!=|<=|>=|[(),.;*+/%=<>-])`)
	noBlob    = regexp.MustCompile(`\A[xX]'`)
)

// modelToken is the first token of s, and how many bytes stand for it; none, if s begins with no token.
func modelToken(s string) (api.Token, int) {
	if m := blobForm.FindStringSubmatch(s); m != nil {
		b, err := hex.DecodeString(m[1])
		if err != nil {
			panic("no blob: " + s)
		}
		return api.Token{Kind: api.TokBlob, Text: string(b)}, len(m[0])
	}
	if noBlob.MatchString(s) {
		return api.Token{}, 0
	}
	if m := textForm.FindStringSubmatch(s); m != nil {
		return api.Token{Kind: api.TokText, Text: strings.ReplaceAll(m[1], "''", "'")}, len(m[0])
	}
	if w := wordForm.FindString(s); w != "" {
		return api.Token{Kind: api.TokWord, Text: strings.ToLower(w)}, len(w)
	}
	if d := intForm.FindString(s); d != "" {
		n, _ := new(big.Int).SetString(d, 10)
		if !n.IsInt64() {
			return api.Token{}, 0
		}
		return api.Token{Kind: api.TokInt, Int: n.Int64()}, len(d)
	}
	m := markForm.FindString(s)
	if m == "" {
		return api.Token{}, 0
	}
	return api.Token{Kind: api.TokMark, Text: strings.Replace(m, "!=", "<>", 1)}, len(m)
}

func modelLong(t api.Token) bool {
	return t.Kind == api.TokWord && len(t.Text) > api.MaxName || len(t.Text) > api.MaxStr
}

// model is Tokens as the chapter says it, by regular expressions and numbers without bound.
func model(s string) ([]api.Token, api.Errno) {
	if len(s) > api.MaxSQL {
		return nil, api.ErrLimit
	}
	var l []api.Token
	e := api.OK
	for s != "" {
		if b := blankForm.FindString(s); b != "" {
			s = s[len(b):]
			continue
		}
		t, n := modelToken(s)
		if n == 0 {
			return nil, api.ErrForm
		}
		if modelLong(t) {
			e = api.ErrLimit
		}
		l, s = append(l, t), s[n:]
	}
	if e != api.OK {
		return nil, e
	}
	return l, api.OK
}

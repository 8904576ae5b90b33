package lex

import (
	"slices"
	"strings"
	"testing"

	"cadastre/api"
)

// full is a text of MaxStr bytes, made of s.
func full(s string) string { return strings.Repeat(s, api.MaxStr/len(s)) }

// longs: tokens that are one byte too long. (For a blob that is too long there is no room in MaxSQL bytes.)
func longs() []string {
	return []string{
		strings.Repeat("a", api.MaxName+1),
		strings.Repeat("A", api.MaxName+1),
		"_" + strings.Repeat("0", api.MaxName),
		"x" + strings.Repeat("x", api.MaxName),
		"'" + full("a") + "a'",
		"'" + full("a") + "'''",
		"'" + full("\xff") + "\x00'",
		"'" + full("a")[1:] + "'''''",
	}
}

func TestLongTokens(t *testing.T) {
	for _, s := range longs() {
		for _, w := range []string{s, " " + s, s + " ", "a " + s, s + " a", "1 " + s, "(" + s + ")", s + "--\n'a'"} {
			wantErr(t, w, api.ErrLimit)
		}
	}
	wantErr(t, longs()[0]+" "+longs()[4]+" "+longs()[2], api.ErrLimit)
	for _, s := range []string{strings.Repeat("a", api.MaxName), strings.Repeat("Z", api.MaxName), "_" + strings.Repeat("9", api.MaxName-1)} {
		wantTokens(t, s, list(word(strings.ToLower(s))))
		wantTokens(t, s+" "+s, list(word(strings.ToLower(s)), word(strings.ToLower(s))))
	}
	for _, s := range []string{"a", "\x00", "--", "\xff", "ab"} {
		wantTokens(t, "'"+full(s)+"'", list(text(full(s))))
	}
	wantTokens(t, strings.Repeat("0", api.MaxName+1), list(integer(0)))
	wantTokens(t, strings.Repeat("0", api.MaxSQL), list(integer(0)))
	wantTokens(t, strings.Repeat("(", api.MaxSQL), slices.Repeat(list(mark("(")), api.MaxSQL))
	pairs := (api.MaxSQL - len("x''")) / 2
	wantTokens(t, "x'"+strings.Repeat("aB", pairs)+"'", list(blob(strings.Repeat("\xab", pairs))))
}

// TestQuotesInLongTexts: two ' are one byte of a text.
func TestQuotesInLongTexts(t *testing.T) {
	n := api.MaxSQL/2 - 1
	wantTokens(t, "'"+strings.Repeat("''", n)+"'", list(text(strings.Repeat("'", n))))
	wantTokens(t, "'"+full("a")[1:]+"'''", list(text(full("a")[1:]+"'")))
	wantTokens(t, "'"+full("a")[2:]+"'''''", list(text(full("a")[2:]+"''")))
	wantTokens(t, "'"+strings.Repeat("''a", api.MaxStr/2)+"'", list(text(full("'a"))))
	wantErr(t, "'"+strings.Repeat("''a", api.MaxStr/2)+"a'", api.ErrLimit)
	wantErr(t, "'"+strings.Repeat("''a", api.MaxStr/2)+"'''", api.ErrLimit)
}

// TestLongStatement: ErrLimit for too many bytes in all goes ahead of everything.
func TestLongStatement(t *testing.T) {
	for _, s := range []string{" ", "\n", "-", "a", "a ", "'", "!", "9", "x'", "'a' ", "1 ", "(", "\xff"} {
		most := strings.Repeat(s, api.MaxSQL/len(s)+1)[:api.MaxSQL]
		wantModel(t, most)
		wantModel(t, most[1:])
		wantErr(t, most+" ", api.ErrLimit)
		wantErr(t, " "+most, api.ErrLimit)
		wantErr(t, most+most, api.ErrLimit)
	}
	wantTokens(t, strings.Repeat(" ", api.MaxSQL), nil)
	wantTokens(t, strings.Repeat(" ", api.MaxSQL-1)+"a", list(word("a")))
	wantErr(t, strings.Repeat("!", api.MaxSQL), api.ErrForm)
	wantErr(t, strings.Repeat("!", api.MaxSQL+1), api.ErrLimit)
	wantErr(t, strings.Repeat("a ", 1<<20), api.ErrLimit)
}

// TestErrorsInOrder: ErrForm goes ahead of ErrLimit for a token, wherever they stand.
func TestErrorsInOrder(t *testing.T) {
	for _, s := range longs() {
		for _, w := range []string{"!", "|", "'", "'a", "x'0'", "x'", "x'0g'", "9223372036854775808", "\x00", "\xff", "\""} {
			wantErr(t, s+" "+w, api.ErrForm)
			wantErr(t, s+" a "+w, api.ErrForm)
			wantErr(t, s+"\n--\n"+w, api.ErrForm)
			wantErr(t, s+" --"+w, api.ErrLimit)
			if w[0] != '\'' {
				wantErr(t, w+" "+s, api.ErrForm)
				wantErr(t, s+" "+w+" "+s[:3], api.ErrForm)
			}
		}
	}
	long := strings.Repeat("a", api.MaxName+1)
	wantErr(t, "'"+long, api.ErrForm)
	wantErr(t, "'"+full("a")+"a", api.ErrForm)
	wantErr(t, "'"+full("a")+"a''", api.ErrForm)
	wantErr(t, "x'"+full("a")+"a'", api.ErrForm)
	wantErr(t, strings.Repeat("9", api.MaxName)+" "+long, api.ErrForm)
	wantErr(t, long+" "+strings.Repeat("9", api.MaxName), api.ErrForm)
}

package lex

import (
	"fmt"
	"math"
	"slices"
	"strconv"
	"strings"
	"testing"

	"cadastre/api"
)

func word(s string) api.Token { return api.Token{Kind: api.TokWord, Text: s} }

func integer(n int64) api.Token { return api.Token{Kind: api.TokInt, Int: n} }

func text(s string) api.Token { return api.Token{Kind: api.TokText, Text: s} }

func blob(s string) api.Token { return api.Token{Kind: api.TokBlob, Text: s} }

func mark(s string) api.Token { return api.Token{Kind: api.TokMark, Text: s} }

func list(l ...api.Token) []api.Token { return l }

func marks() []string {
	return []string{"(", ")", ",", ".", ";", "*", "+", "-", "/", "%", "=", "<", ">", "||", "<>", "!=", "<=", ">="}
}

func show(l []api.Token) string {
	s := ""
	for i, t := range l {
		if i == 20 {
			return s + fmt.Sprintf(" .. of %d", len(l))
		}
		s += fmt.Sprintf(" {%d %.40q %d}", t.Kind, t.Text, t.Int)
	}
	return s
}

func wantTokens(t *testing.T, s string, w []api.Token) {
	t.Helper()
	if l, e := Tokens(s); !slices.Equal(l, w) || e != api.OK {
		t.Errorf("Tokens(%.80q, of %d bytes):%s, %v, want%s", s, len(s), show(l), e, show(w))
	}
}

// wantErr: beside an error stands no token (R4).
func wantErr(t *testing.T, s string, w api.Errno) {
	t.Helper()
	if l, e := Tokens(s); len(l) != 0 || e != w {
		t.Errorf("Tokens(%.80q, of %d bytes):%s, %v, want %v", s, len(s), show(l), e, w)
	}
}

func wantModel(t *testing.T, s string) {
	t.Helper()
	if w, e := model(s); e != api.OK {
		wantErr(t, s, e)
	} else {
		wantTokens(t, s, w)
	}
}

// TestExample: the chapter's.
func TestExample(t *testing.T) {
	wantTokens(t, "SELECT a<>'it''s'", list(word("select"), word("a"), mark("<>"), text("it's")))
}

func TestBlanks(t *testing.T) {
	for _, s := range []string{"", " ", "\t", "\n", "\r", " \t\r\n ", "--", "---", "-- ", "--\n", "--a", "--'", "--!\n", "-- \xff\x00", "--a\r", "\n--\n--\n", "----", "--\n--"} {
		wantTokens(t, s, nil)
		wantTokens(t, "a"+s, list(word("a")))
		wantTokens(t, s+"\na", list(word("a")))
		wantTokens(t, "a"+s+"\nb", list(word("a"), word("b")))
	}
	wantTokens(t, "a--b\rc", list(word("a")))
	wantTokens(t, "a-- b\nc--\nd -- e", list(word("a"), word("c"), word("d")))
	wantTokens(t, "a - -b", list(word("a"), mark("-"), mark("-"), word("b")))
	wantTokens(t, "a -\n-b", list(word("a"), mark("-"), mark("-"), word("b")))
	wantTokens(t, "-1---1\n-1", list(mark("-"), integer(1), mark("-"), integer(1)))
	for _, s := range []string{"\v", "\f", "\x00", "\x08", "\x0e", "\x1c", "\x1f", "\x7f", "\x85", "\xa0", "\u00a0", "\u2028", "\ufeff"} {
		wantErr(t, s, api.ErrForm)
		wantErr(t, "a"+s+"b", api.ErrForm)
	}
}

func TestWords(t *testing.T) {
	for _, s := range []string{"a", "z", "_", "x", "X", "A", "Z", "aZ", "Select", "_A9", "__", "a0", "A_0_z", "xx", "x0", "null", "abcdefghijklmnopqrstuvwxyz_", "ABCDEFGHIJKLMNOPQRSTUVWXYZ_", "_0123456789"} {
		wantTokens(t, s, list(word(strings.ToLower(s))))
	}
	wantTokens(t, "a.B", list(word("a"), mark("."), word("b")))
	wantTokens(t, "xx'00'", list(word("xx"), text("00")))
	wantTokens(t, "x0'00'", list(word("x0"), text("00")))
	wantTokens(t, "_x'00'", list(word("_x"), text("00")))
	wantTokens(t, "x '00'", list(word("x"), text("00")))
	wantTokens(t, "x--\n'00'", list(word("x"), text("00")))
	wantTokens(t, "x=x", list(word("x"), mark("="), word("x")))
	for _, s := range []string{"@", "[", "`", "{", "$", "#", "?", ":", "\"a\"", "a\"", "a@b", "a[", "a`", "a{", "a$", "\xc3\xa9", "a\xc3\xa9", "\u212a", "\u0131", "a\xff"} {
		wantErr(t, s, api.ErrForm)
	}
}

func TestIntegers(t *testing.T) {
	for _, n := range []int64{0, 1, 7, 9, 10, 42, 1 << 31, 1 << 32, 1 << 53, 1<<53 + 1, 999999999999999999, 1e18, math.MaxInt64 - 1, math.MaxInt64} {
		d := strconv.FormatInt(n, 10)
		wantTokens(t, d, list(integer(n)))
		wantTokens(t, "00"+d, list(integer(n)))
		wantTokens(t, strings.Repeat("0", api.MaxSQL-len(d))+d, list(integer(n)))
		wantTokens(t, "-"+d, list(mark("-"), integer(n)))
		wantTokens(t, d+"a", list(integer(n), word("a")))
		wantTokens(t, d+"_1", list(integer(n), word("_1")))
		wantTokens(t, d+"."+d, list(integer(n), mark("."), integer(n)))
	}
	wantTokens(t, "1x'01'", list(integer(1), blob("\x01")))
	wantTokens(t, "0x1f", list(integer(0), word("x1f")))
	wantTokens(t, "1e5", list(integer(1), word("e5")))
	wantTokens(t, "1'1'1", list(integer(1), text("1"), integer(1)))
	for _, s := range []string{"9223372036854775808", "9223372036854775810", "10000000000000000000", "18446744073709551615", "18446744073709551616", "18446744073709551617", "36893488147419103232", "-9223372036854775808", "0009223372036854775808", "9223372036854775808x", strings.Repeat("9", api.MaxSQL), "1 99999999999999999999 1"} {
		wantErr(t, s, api.ErrForm)
	}
	wantErr(t, "\u0661", api.ErrForm)
	wantErr(t, "1\uff11", api.ErrForm)
}

func TestTexts(t *testing.T) {
	for _, s := range []string{"", "a", " ", "A", "it's", "'", "''", "'a", "a'", "'''", "a''b", "--", "\n", "a\r\n--b", "\x00", "\xff\xfe", "\xc3\xa9", "x'00'", "!", "\""} {
		spelt := "'" + strings.ReplaceAll(s, "'", "''") + "'"
		wantTokens(t, spelt, list(text(s)))
		wantTokens(t, spelt+" "+spelt, list(text(s), text(s)))
		wantTokens(t, spelt+spelt, list(text(s+"'"+s)))
		wantTokens(t, spelt+"a"+spelt, list(text(s), word("a"), text(s)))
		wantErr(t, spelt+"'", api.ErrForm)
	}
	for _, s := range []string{"'", "'''", "'a", "'a''", "'a''b", "'a' '", "''''' ", "'--", "'\n"} {
		wantErr(t, s, api.ErrForm)
	}
	for c := range 256 {
		if c != '\'' {
			wantTokens(t, "'"+string([]byte{byte(c)})+"'", list(text(string([]byte{byte(c)}))))
		}
	}
}

func TestBlobs(t *testing.T) {
	all := ""
	for c := range 256 {
		all += string([]byte{byte(c)})
		for _, form := range []string{"x'%02x'", "X'%02x'", "x'%02X'", "X'%02X'"} {
			wantTokens(t, fmt.Sprintf(form, c), list(blob(string([]byte{byte(c)}))))
		}
	}
	wantTokens(t, fmt.Sprintf("x'%x'", all), list(blob(all)))
	wantTokens(t, "x'aAfF09'", list(blob("\xaa\xff\x09")))
	wantTokens(t, "x'' X''", list(blob(""), blob("")))
	wantTokens(t, "x'00fF'X''", list(blob("\x00\xff"), blob("")))
	wantTokens(t, "x'00''00'", list(blob("\x00"), text("00")))
	wantTokens(t, "x''''", list(blob(""), text("")))
	wantTokens(t, "x'00'a", list(blob("\x00"), word("a")))
	wantTokens(t, "'a'x'00'", list(text("a"), blob("\x00")))
	for _, s := range []string{"x'", "X'", "x'0", "x'00", "x'0'", "x'000'", "x'0g'", "x'g0'", "x'0G'", "x'/0'", "x'0:'", "x'@0'", "x'`0'", "x'00 '", "x' 00'", "x'0 0'", "x'-1'", "x'+1'", "x'0x'", "x'0_'", "x'0\x00'", "x'0''0'", "x'''", "x'00''", "x'\xff\xff'", "x'--\n'", "x'zz' 'a'"} {
		wantErr(t, s, api.ErrForm)
		wantErr(t, s+" ", api.ErrForm)
		wantErr(t, "a "+s, api.ErrForm)
	}
}

func meant(m string) api.Token {
	if m == "!=" {
		return mark("<>")
	}
	return mark(m)
}

func TestMarks(t *testing.T) {
	for _, m := range marks() {
		wantTokens(t, m, list(meant(m)))
		wantTokens(t, "a"+m+"b", list(word("a"), meant(m), word("b")))
		wantTokens(t, "1"+m+"2", list(integer(1), meant(m), integer(2)))
		wantTokens(t, "'a'"+m+"x''", list(text("a"), meant(m), blob("")))
		for _, n := range marks() {
			wantTokens(t, m+" "+n, list(meant(m), meant(n)))
			wantModel(t, m+n)
		}
	}
	for s, w := range map[string][]api.Token{
		"<>=":    list(mark("<>"), mark("=")),
		"<=>":    list(mark("<="), mark(">")),
		"<==":    list(mark("<="), mark("=")),
		">=<":    list(mark(">="), mark("<")),
		">>=":    list(mark(">"), mark(">=")),
		"<<>>":   list(mark("<"), mark("<>"), mark(">")),
		"!==":    list(mark("<>"), mark("=")),
		"<!=":    list(mark("<"), mark("<>")),
		"=<":     list(mark("="), mark("<")),
		"=>":     list(mark("="), mark(">")),
		"==":     list(mark("="), mark("=")),
		"< >":    list(mark("<"), mark(">")),
		"> =":    list(mark(">"), mark("=")),
		"||||":   list(mark("||"), mark("||")),
		"<--\n=": list(mark("<"), mark("=")),
	} {
		wantTokens(t, s, w)
	}
	for _, s := range []string{"!", "|", "! =", "| |", "|||", "!<", "!!=", "a!b", "a|b", "<|", "&", "^", "~", "\\", "&&"} {
		wantErr(t, s, api.ErrForm)
	}
}

// TestOtherBytes: a byte that stands in no token and is no blank is wrong, wherever it stands but in a text or a remark.
func TestOtherBytes(t *testing.T) {
	for c := range 256 {
		b := string([]byte{byte(c)})
		if strings.Contains("\t\n\r _'!|(),.;*+-/%=<>", b) || c >= '0' && c <= '9' || c >= 'a' && c <= 'z' || c >= 'A' && c <= 'Z' {
			continue
		}
		for _, s := range []string{b, " " + b, b + " ", "a" + b, b + "a", "1" + b, "''" + b, "x''" + b, "x'" + b + "'", "<" + b, "--\n" + b} {
			wantErr(t, s, api.ErrForm)
		}
		wantTokens(t, "'"+b+"'--"+b, list(text(b)))
	}
}

package lex

import (
	"encoding/hex"
	"math"
	"math/rand"
	"slices"
	"strconv"
	"strings"
	"testing"

	"cadastre/api"
)

// pieces: what texts are put together of: a piece of each state, and what begins or ends one.
func pieces() []string {
	return []string{" ", "\n", "\r", "-", "--", "a", "X", "x'", "_", "0", "7f", "'", "''", "!", "=", "<", ">", "|", "(", "*", "\xff"}
}

// TestAllShort: every text of at most two bytes, and every row of at most four pieces, is read as by the model.
func TestAllShort(t *testing.T) {
	wantModel(t, "")
	for a := range 256 {
		wantModel(t, string([]byte{byte(a)}))
		for b := range 256 {
			wantModel(t, string([]byte{byte(a), byte(b)}))
		}
	}
	rows := []string{""}
	for range 4 {
		var longer []string
		for _, s := range rows {
			for _, p := range pieces() {
				longer = append(longer, s+p)
			}
		}
		for _, s := range longer {
			wantModel(t, s)
		}
		if t.Failed() {
			return
		}
		rows = longer
	}
}

// TestLongRows: long rows of pieces, most of them without what is wrong alone.
func TestLongRows(t *testing.T) {
	r := rand.New(rand.NewSource(19))
	more := append(marks(), "x'0aF0'", "'a''b'", "'c'", "name", "Select", "12", "0", "--r\n", "\t", " ", " ", " ", "9223372036854775807")
	ok := 0
	for k := 0; k < 3000 && !t.Failed(); k++ {
		var s strings.Builder
		for n := r.Intn(200); n > 0; n-- {
			s.WriteString(more[r.Intn(len(more))])
			if r.Intn(300) == 0 {
				s.WriteString(pieces()[r.Intn(len(pieces()))])
			}
		}
		wantModel(t, s.String())
		if _, e := model(s.String()); e == api.OK {
			ok++
		}
	}
	if ok < 500 {
		t.Errorf("only %d rows of tokens", ok)
	}
}

// someToken tells any token with one of its spellings, by which it stands alone.
func someToken(r *rand.Rand) (api.Token, string) {
	bytes := make([]byte, r.Intn(12))
	for i := range bytes {
		bytes[i] = "'\x00a-\n\xff Zx0"[r.Intn(10)]
	}
	s := string(bytes)
	switch r.Intn(5) {
	case 0:
		w := ""
		for n := r.Intn(api.MaxName) + 1; len(w) < n; {
			w += string("abcxyz_0189"[r.Intn(11)])
		}
		w = "x_a"[r.Intn(3):][:1] + w[1:]
		return word(w), someCapitals(r, w)
	case 1:
		n := int64(r.Uint64()) & math.MaxInt64 >> r.Intn(63)
		return integer(n), strings.Repeat("0", r.Intn(4)) + strconv.FormatInt(n, 10)
	case 2:
		return text(s), "'" + strings.ReplaceAll(s, "'", "''") + "'"
	case 3:
		return blob(s), someCapitals(r, "x'"+hex.EncodeToString(bytes)+"'")
	}
	m := marks()[r.Intn(len(marks()))]
	return meant(m), m
}

func someCapitals(r *rand.Rand, s string) string {
	b := []byte(s)
	for i, c := range b {
		if c >= 'a' && c <= 'z' && r.Intn(2) == 0 {
			b[i] = c - 32
		}
	}
	return string(b)
}

func someBlanks(r *rand.Rand) string {
	return []string{" ", "\t", "\r", "\n", "  ", " \n\t", "--\n", "--a'b!\n", " -- x'0\r\xff\n ", "\n\n--\n--\n"}[r.Intn(10)]
}

// apart puts the blank b behind each of the tokens. Behind the mark - a remark does not stand at once: it would begin with the mark.
func apart(spelt []string, b func() string) string {
	s := ""
	for _, p := range spelt {
		s += p
		if between := b(); p == "-" && strings.HasPrefix(between, "-") {
			s += " " + between
		} else {
			s += between
		}
	}
	return s
}

// TestBlanksAndCapitals: P19.2: whatever blanks stand between tokens, and whatever letters of words are capitals, the tokens are the same.
func TestBlanksAndCapitals(t *testing.T) {
	r := rand.New(rand.NewSource(192))
	for n := 0; n < 3000 && !t.Failed(); n++ {
		var w []api.Token
		var spelt []string
		for n := r.Intn(30); n > 0; n-- {
			k, s := someToken(r)
			w, spelt = append(w, k), append(spelt, s)
		}
		wantTokens(t, strings.Join(spelt, " "), w)
		for range 3 {
			wantTokens(t, someBlanks(r)+apart(spelt, func() string { return someBlanks(r) }), w)
		}
		wantModel(t, strings.Join(spelt, ""))
	}
}

// TestMoreBlanks: where tokens stand at once behind one another, blanks may come between them.
func TestMoreBlanks(t *testing.T) {
	const dense = "select,a.b*1<>'it''s'||x'0a'from(t)where-1<=2"
	w, e := Tokens(dense)
	if e != api.OK || len(w) != 20 {
		t.Fatalf("%s, %v", show(w), e)
	}
	spelt := []string{"select", ",", "a", ".", "b", "*", "1", "<>", "'it''s'", "||", "x'0a'", "from", "(", "t", ")", "where", "-", "1", "<=", "2"}
	if strings.Join(spelt, "") != dense {
		t.Fatal("spelt otherwise")
	}
	for _, b := range []string{" ", "\n", "\t\r", "--,\n", "  --\n "} {
		s := apart(spelt, func() string { return b })
		wantTokens(t, s, w)
		wantTokens(t, b+s, w)
		wantTokens(t, strings.ToUpper(s), upperTexts(w))
	}
}

// upperTexts: capital letters change nothing in words, but in texts they count.
func upperTexts(l []api.Token) []api.Token {
	l = slices.Clone(l)
	for i := range l {
		if l[i].Kind == api.TokText {
			l[i].Text = strings.ToUpper(l[i].Text)
		}
	}
	return l
}

// TestTold: who writes into what is told, or appends to it, changes nothing that is told else (R2); the same call tells the same (R4).
func TestTold(t *testing.T) {
	const s = "SELECT a, 'b', x'63', 7 FROM t"
	w, e := model(s)
	if e != api.OK {
		t.Fatal(e)
	}
	first, _ := Tokens(s)
	second, _ := Tokens(s)
	for i := range first {
		first[i] = integer(-1)
	}
	first = append(first[:1], first...)
	first = append(first, first...)
	if !slices.Equal(second, w) {
		t.Errorf("%s, want%s", show(second), show(w))
	}
	wantTokens(t, s, w)
	second = second[:cap(second)]
	clear(second)
	wantTokens(t, s, w)
}

// FuzzTokens: any text is read as by the model.
func FuzzTokens(f *testing.F) {
	for _, s := range append(pieces(), longs()...) {
		f.Add(s)
	}
	f.Fuzz(func(t *testing.T, s string) { wantModel(t, s) })
}

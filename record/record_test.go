package record

import (
	"bytes"
	"encoding/hex"
	"fmt"
	"math"
	"math/big"
	"math/rand"
	"slices"
	"strings"
	"testing"

	"cadastre/api"
	"cadastre/value"
)

func null() api.Value { return api.Value{} }

func integer(n int64) api.Value { return api.Value{Kind: api.KindInt, Int: n} }

func text(s string) api.Value { return api.Value{Kind: api.KindText, Str: s} }

func blob(s string) api.Value { return api.Value{Kind: api.KindBlob, Str: s} }

func full(s string) string { return strings.Repeat(s, api.MaxStr) }

func show(v api.Value) string {
	return fmt.Sprintf("{%d %d %.20q, of %d}", v.Kind, v.Int, v.Str, len(v.Str))
}

func showAll(l []api.Value) string {
	var s []string
	for _, v := range l {
		s = append(s, show(v))
	}
	return fmt.Sprintf("%d of %.400s", len(l), strings.Join(s, " "))
}

func showBytes(b []byte) string { return fmt.Sprintf("%d of %.80x", len(b), b) }

func unhex(t *testing.T, s string) []byte {
	t.Helper()
	b, err := hex.DecodeString(strings.ReplaceAll(s, " ", ""))
	if err != nil {
		t.Fatal(err)
	}
	return b
}

// small is a number's varint, where it has one or two bytes.
func small(n int) []byte {
	if n < 0 || n >= 1<<14 {
		panic("not small")
	}
	if n < 1<<7 {
		return []byte{byte(n)}
	}
	return []byte{byte(n>>7) + 128, byte(n & 127)}
}

// complement tells n's bytes in two's complement, by numbers without bound: n itself, or as far below 2^bits as n is below 0.
func complement(n int64, size int) []byte {
	x := big.NewInt(n)
	if n < 0 {
		x.Add(x, new(big.Int).Lsh(big.NewInt(1), uint(8*size)))
	}
	return x.FillBytes(make([]byte, size))
}

// spelledInt is an integer's type and its bytes as the chapter says them.
func spelledInt(n int64) (int, []byte) {
	if n == 0 || n == 1 {
		return 5 + int(n), nil
	}
	for i, size := range []int{1, 2, 4} {
		most := int64(math.Pow(2, float64(8*size-1)))
		if n >= -most && n <= most-1 {
			return 1 + i, complement(n, size)
		}
	}
	return 4, complement(n, 8)
}

// spelled is the record of l as the chapter says it, without any bound.
func spelled(l []api.Value) []byte {
	head, body := small(len(l)), []byte{}
	for _, v := range l {
		kind, b := 0, []byte(v.Str)
		switch v.Kind {
		case api.KindInt:
			kind, b = spelledInt(v.Int)
		case api.KindBlob:
			kind = 12 + 2*len(v.Str)
		case api.KindText:
			kind = 13 + 2*len(v.Str)
		}
		head, body = append(head, small(kind)...), append(body, b...)
	}
	return append(head, body...)
}

// guess reads b as if they were a record, as far as it goes, with anything that may be wrong let through;
// if they are one, these are its values.
func guess(b []byte) []api.Value {
	take := func(n int) []byte {
		n = min(n, len(b))
		x := b[:n]
		b = b[n:]
		return x
	}
	number := func() int {
		n := 0
		for i := 0; i < 2 && len(b) > 0; i++ {
			x := take(1)[0]
			n = n*128 + int(x%128)
			if x < 128 {
				break
			}
		}
		return n
	}
	var types []int
	for range min(number(), api.MaxCols+1) {
		types = append(types, number())
	}
	var l []api.Value
	for _, t := range types {
		switch {
		case t == 0:
			l = append(l, null())
		case t <= 4:
			x := new(big.Int).SetBytes(take(1 << (t - 1)))
			if bits := 8 << (t - 1); x.Bit(bits-1) == 1 {
				x.Sub(x, new(big.Int).Lsh(big.NewInt(1), uint(bits)))
			}
			l = append(l, integer(x.Int64()))
		case t < 12:
			l = append(l, integer(int64(t-5)))
		case t%2 == 0:
			l = append(l, blob(string(take((t-12)/2))))
		default:
			l = append(l, text(string(take((t-13)/2))))
		}
	}
	return l
}

// isRecord asks whether b are the record of some values, and of which.
func isRecord(b []byte) ([]api.Value, bool) {
	l := guess(b)
	for _, v := range l {
		if len(v.Str) > api.MaxStr {
			return nil, false
		}
	}
	return l, bytes.Equal(spelled(l), b)
}

// edgeInts: the edges of each power of two, and of the whole.
func edgeInts() []int64 {
	l := []int64{math.MinInt64, math.MinInt64 + 1, math.MaxInt64 - 1, math.MaxInt64, 0, 7, -7, -305, 0x0102030405060708, -0x0102030405060708, 0x01020304, 0x0102}
	for k := range 63 {
		p := int64(1) << k
		l = append(l, p-1, p, p+1, -p, 1-p, -1-p)
	}
	slices.Sort(l)
	return slices.Compact(l)
}

// strs: what texts and blobs are made of; lengths about those from which on a type needs a byte more among it.
func strs() []string {
	l := []string{"", "a", "\x00", "\xff", "\x80\x00", "1", "-5", "\xc3\xa4", "x'y\"z\n", "\x03\x00\x06\x0fa"}
	for _, n := range []int{2, 8, 56, 57, 58, 59, 60, 63, 64, 127, 128, 255, 256, 1000, 4095, 4096} {
		l = append(l, strings.Repeat("\x81", n), strings.Repeat("ab", n)[:n])
	}
	return l
}

// someOfAll: values of every kind.
func someOfAll() []api.Value {
	l := []api.Value{null()}
	for _, n := range edgeInts() {
		l = append(l, integer(n))
	}
	for _, s := range strs() {
		l = append(l, text(s), blob(s))
	}
	return l
}

// wrong: no values, by one fault or by several.
func wrong() []api.Value {
	return []api.Value{
		{Kind: api.KindNull, Int: 1},
		{Kind: api.KindNull, Int: math.MinInt64},
		{Kind: api.KindNull, Str: "1"},
		{Kind: api.KindInt, Str: "1"},
		{Kind: api.KindInt, Int: 1, Str: "1"},
		{Kind: api.KindText, Int: 1},
		{Kind: api.KindText, Int: 5, Str: "5"},
		{Kind: api.KindBlob, Int: 1},
		{Kind: api.KindBlob, Int: math.MaxInt64, Str: "a"},
		text(full("x") + "x"),
		blob(full("x") + "x"),
		text(strings.Repeat("x", api.MaxRecord+1)),
		blob(strings.Repeat("x", api.MaxRecord+1)),
		{Kind: -1},
		{Kind: -1, Int: 1},
		{Kind: api.KindBlob + 1},
		{Kind: api.KindBlob + 1, Str: "1"},
		{Kind: 256},
		{Kind: 257, Int: 1},
		{Kind: math.MinInt},
		{Kind: math.MaxInt},
	}
}

// rows: none, each value alone, each beside each of some others, seeded ones of every length.
func rows() [][]api.Value {
	all := someOfAll()
	few := []api.Value{null(), integer(0), integer(1), integer(-2), integer(300), integer(1 << 40), text(""), text("ab"), blob(""), blob("\x06")}
	l := [][]api.Value{nil, {}}
	for _, v := range all {
		l = append(l, []api.Value{v})
		for _, w := range few {
			l = append(l, []api.Value{v, w}, []api.Value{w, v})
		}
	}
	r := rand.New(rand.NewSource(6))
	for i := range 3000 {
		var row []api.Value
		for range i % (api.MaxCols + 2) {
			v := all[r.Intn(len(all))]
			if len(v.Str) > 900 {
				v.Str = v.Str[:r.Intn(900)]
			}
			row = append(row, v)
		}
		l = append(l, row)
	}
	return l
}

// bound tells a row whose record has just n bytes, n from 3 strings of MaxStr bytes on.
func bound(t *testing.T, n int) []api.Value {
	t.Helper()
	l := []api.Value{text(full("a")), blob(full("b")), text(full("c")), text("")}
	l[3].Str = strings.Repeat("d", n-len(spelled(l))-1) // its type has a byte more then
	if len(spelled(l)) != n || len(l[3].Str) < 58 || value.Check(l[3]) != api.OK {
		t.Fatalf("no row of %d bytes", n)
	}
	return l
}

func wantBytes(t *testing.T, l []api.Value, want []byte) {
	t.Helper()
	if b, e := Encode(l); e != api.OK || !bytes.Equal(b, want) {
		t.Fatalf("Encode %s: %s, %d; not %s", showAll(l), showBytes(b), e, showBytes(want))
	}
}

func wantRow(t *testing.T, b []byte, want []api.Value) {
	t.Helper()
	if l, e := Decode(b); e != api.OK || !slices.Equal(l, want) {
		t.Fatalf("Decode %s: %s, %d; not %s", showBytes(b), showAll(l), e, showAll(want))
	}
}

func wantNoBytes(t *testing.T, l []api.Value, want api.Errno) {
	t.Helper()
	if b, e := Encode(l); e != want || b != nil {
		t.Fatalf("Encode %s: %s, %d; not none, %d", showAll(l), showBytes(b), e, want)
	}
}

func wantNoRow(t *testing.T, b []byte) {
	t.Helper()
	if l, e := Decode(b); e != api.ErrForm || l != nil {
		t.Fatalf("Decode %s: %s, %d; not none, ErrForm", showBytes(b), showAll(l), e)
	}
}

// P6.1: the chapter's example, and rows whose bytes are written out.
func TestExamples(t *testing.T) {
	x60 := strings.Repeat("x", 60)
	for _, c := range []struct {
		l []api.Value
		b string
	}{
		{[]api.Value{null(), integer(1), text("a")}, "03 00 06 0f 61"},
		{nil, "00"},
		{[]api.Value{null()}, "01 00"},
		{[]api.Value{integer(0)}, "01 05"},
		{[]api.Value{integer(1)}, "01 06"},
		{[]api.Value{integer(-1)}, "01 01 ff"},
		{[]api.Value{integer(2)}, "01 01 02"},
		{[]api.Value{integer(127)}, "01 01 7f"},
		{[]api.Value{integer(-128)}, "01 01 80"},
		{[]api.Value{integer(128)}, "01 02 0080"},
		{[]api.Value{integer(-129)}, "01 02 ff7f"},
		{[]api.Value{integer(32767)}, "01 02 7fff"},
		{[]api.Value{integer(-32768)}, "01 02 8000"},
		{[]api.Value{integer(32768)}, "01 03 00008000"},
		{[]api.Value{integer(-32769)}, "01 03 ffff7fff"},
		{[]api.Value{integer(1<<23 - 1)}, "01 03 007fffff"},
		{[]api.Value{integer(math.MaxInt32)}, "01 03 7fffffff"},
		{[]api.Value{integer(math.MinInt32)}, "01 03 80000000"},
		{[]api.Value{integer(math.MaxInt32 + 1)}, "01 04 0000000080000000"},
		{[]api.Value{integer(math.MinInt32 - 1)}, "01 04 ffffffff7fffffff"},
		{[]api.Value{integer(0x0102030405060708)}, "01 04 0102030405060708"},
		{[]api.Value{integer(math.MaxInt64)}, "01 04 7fffffffffffffff"},
		{[]api.Value{integer(math.MinInt64)}, "01 04 8000000000000000"},
		{[]api.Value{text("")}, "01 0d"},
		{[]api.Value{blob("")}, "01 0c"},
		{[]api.Value{text("ab"), blob("ab")}, "02 11 10 6162 6162"},
		{[]api.Value{text(x60[:57]), blob(x60[:57])}, "02 7f 7e" + strings.Repeat("78", 114)},
		{[]api.Value{text(x60[:58]), blob(x60[:58])}, "02 8101 8100" + strings.Repeat("78", 116)},
		{[]api.Value{text(full("x"))}, "01 c00d" + strings.Repeat("78", 4096)},
		{[]api.Value{blob(full("x"))}, "01 c00c" + strings.Repeat("78", 4096)},
		{make([]api.Value, api.MaxCols+1), "11" + strings.Repeat("00", 17)},
		{[]api.Value{integer(258), null(), text("\x00"), integer(0), blob("\xff\x00"), integer(-1)}, "06 02 00 0f 05 10 01 0102 00 ff00 ff"},
	} {
		b := unhex(t, c.b)
		wantBytes(t, c.l, b)
		wantRow(t, b, c.l)
	}
}

// P6.1: rows of values of every kind, by bytes that are spelled otherwise.
func TestRows(t *testing.T) {
	for _, l := range rows() {
		b := spelled(l)
		if len(b) > api.MaxRecord {
			t.Fatalf("%s has too many bytes for this test", showAll(l))
		}
		wantBytes(t, l, b)
		wantRow(t, b, l)
	}
	for n := range int64(1 << 17) {
		wantBytes(t, []api.Value{integer(n - 1<<16)}, spelled([]api.Value{integer(n - 1<<16)}))
	}
	for n := range api.MaxStr + 1 {
		l := []api.Value{text(full("q")[:n]), blob(full("r")[:n])}
		b := spelled(l)
		wantBytes(t, l, b)
		wantRow(t, b, l)
	}
}

// P6.1: too many values, with or without bytes of their own.
func TestTooManyValues(t *testing.T) {
	for _, v := range []api.Value{null(), integer(1), integer(-1), text(""), text("a"), blob("b"), text(full("x"))} {
		for _, n := range []int{api.MaxCols + 2, api.MaxCols + 3, 2 * api.MaxCols, 127, 128, 129, 255, 256, 257, 1000} {
			wantNoBytes(t, slices.Repeat([]api.Value{v}, n), api.ErrLimit)
		}
	}
	for _, v := range []api.Value{null(), integer(1), integer(-1), text(""), text("a"), blob(strings.Repeat("b", 900))} {
		for n := range api.MaxCols + 2 {
			l := slices.Repeat([]api.Value{v}, n)
			wantBytes(t, l, spelled(l))
		}
	}
}

// P6.1: a record of MaxRecord bytes is told, one of more is not.
func TestTooManyBytes(t *testing.T) {
	for n := api.MaxRecord - 3; n <= api.MaxRecord; n++ {
		l := bound(t, n)
		wantBytes(t, l, spelled(l))
		wantRow(t, spelled(l), l)
	}
	for n := api.MaxRecord + 1; n < api.MaxRecord+9; n++ {
		wantNoBytes(t, bound(t, n), api.ErrLimit)
	}
	// All of its bytes count, not those of texts and blobs alone.
	l := bound(t, api.MaxRecord)
	for _, v := range []api.Value{null(), integer(0), integer(1), integer(-1), integer(math.MinInt64), text(""), blob("")} {
		wantNoBytes(t, append(slices.Clone(l), v), api.ErrLimit)
	}
	wantNoBytes(t, slices.Repeat([]api.Value{text(full("x"))}, 4), api.ErrLimit)
	wantNoBytes(t, slices.Repeat([]api.Value{blob(full("x"))}, api.MaxCols+1), api.ErrLimit)
	for n, want := range map[int]api.Errno{961: api.OK, 962: api.ErrLimit} {
		// 1 byte, 17 of 2, and 17 times n.
		l := slices.Repeat([]api.Value{text(strings.Repeat("y", n))}, api.MaxCols+1)
		if b, e := Encode(l); e != want || (e == api.OK) != bytes.Equal(b, spelled(l)) {
			t.Fatalf("%d bytes each: %s, %d", n, showBytes(b), e)
		}
	}
}

// P6.1, R4: what is no value, at each place, and ErrForm ahead of ErrLimit.
func TestNoValues(t *testing.T) {
	for _, w := range wrong() {
		wantNoBytes(t, []api.Value{w}, api.ErrForm)
		for n := 1; n <= 40; n++ {
			for _, at := range []int{0, n / 2, n - 1} {
				l := slices.Repeat([]api.Value{integer(5)}, n)
				l[at] = w
				wantNoBytes(t, l, api.ErrForm)
			}
		}
		for _, l := range [][]api.Value{bound(t, api.MaxRecord+1), slices.Repeat([]api.Value{text(full("x"))}, 30), make([]api.Value, 300)} {
			wantNoBytes(t, append(slices.Clone(l), w), api.ErrForm)
			wantNoBytes(t, append([]api.Value{w}, l...), api.ErrForm)
		}
	}
}

// P6.1: Decode of what is no record.
func TestNoRecords(t *testing.T) {
	for _, s := range []string{
		"", "80", "ff", // no number of values
		"80 00", "80 01 00", "81", "80 80 01 05", // a number that is longer than it need be, or not whole
		"01", "02 00", "03 00 06", "11 00", "03 00 06 0f", // not whole
		"00 00", "01 00 00", "03 00 06 0f 61 00", // a byte behind
		"01 80 00", "01 80 05", "01 80 0f 61", "01 81", "01 80", // types that are no varint
		"01 01 00", "01 01 01", // 0 and 1 written as bytes
		"01 02 0000", "01 02 0001", "01 03 00000000", "01 03 00000001", "01 04 0000000000000000", "01 04 0000000000000001",
		"01 02 007f", "01 02 0002", "01 02 ff80", "01 02 ffff", // more bytes than they need
		"01 03 0000007f", "01 03 00000080", "01 03 00007fff", "01 03 ffff8000", "01 03 ffffff7f", "01 03 ffffffff",
		"01 04 000000000000007f", "01 04 0000000000000080", "01 04 000000007fffffff", "01 04 ffffffff80000000", "01 04 ffffffffffffffff", "01 04 ffffffffffff8000",
		"01 07", "01 08", "01 09", "01 0a", "01 0b", "01 07 00", "01 08 00", "01 0a 0000", // types that are none
		"01 0e", "01 0f", "01 10 61", "01 11 61", "02 0f 0f 61", "01 0f 6161", // longer than what is left, or less
		"01 01", "01 02 01", "01 03 010000", "01 04 01000000000000",
		"12" + strings.Repeat("00", 18), "7f" + strings.Repeat("00", 127), "8100" + strings.Repeat("00", 128), "8200" + strings.Repeat("05", 256),
		"ff ff ff ff ff ff ff ff ff", "ff ff ff ff ff ff ff ff ff 00", "ff ff ff ff ff ff ff ff 00 00", // numbers of values beyond any bound
		"01 ff ff ff ff ff ff ff ff ff", "01 ff ff ff ff ff ff ff ff fe", "01 ff ff ff ff ff ff ff ff 0c",
		"01 ff ff ff ff ff ff ff 7f 61", "01 84 80 80 80 0d 61", "01 84 80 80 80 0c", "01 90 80 80 80 05", "01 88 80 80 80 80 0f 61", // types of very many bytes
		"01 82 80 80 80 80 80 80 80 80 0c", "01 c0 80 80 80 80 80 80 80 0c", "01 c0 80 80 80 80 80 80 80 05",
	} {
		wantNoRow(t, unhex(t, s))
	}
	wantNoRow(t, nil)
	for n := api.MaxStr + 1; n < api.MaxStr+70; n++ {
		for _, kind := range []int{12, 13} {
			wantNoRow(t, slices.Concat([]byte{1}, small(kind+2*n), make([]byte, n)))
			wantNoRow(t, slices.Concat([]byte{2, 5}, small(kind+2*n), make([]byte, n)))
			wantNoRow(t, slices.Concat([]byte{1}, small(kind+2*n), make([]byte, api.MaxStr)))
		}
	}
	for n := api.MaxCols + 2; n < 300; n++ {
		for _, v := range []api.Value{null(), integer(1), integer(-1), text(""), blob("a")} {
			wantNoRow(t, spelled(slices.Repeat([]api.Value{v}, n)))
		}
	}
}

// P6.1: of all bytes that are three or less just those are read that are the record of some row.
func TestAllShortBytes(t *testing.T) {
	var short [][]api.Value
	none := []api.Value{null(), integer(0), integer(1), text(""), blob("")}
	for _, v := range none {
		short = append(short, []api.Value{v})
		for _, w := range none {
			short = append(short, []api.Value{v, w})
		}
	}
	for x := range 256 {
		short = append(short, []api.Value{text(string([]byte{byte(x)}))}, []api.Value{blob(string([]byte{byte(x)}))})
		if n := int64(x) - 128; n != 0 && n != 1 {
			short = append(short, []api.Value{integer(n)})
		}
	}
	short = append(short, nil)
	want := map[string][]api.Value{}
	for _, l := range short {
		want[string(spelled(l))] = l
	}
	for size := range 4 {
		b := make([]byte, size)
		for n := range 1 << (8 * size) {
			for i := range b {
				b[i] = byte(n >> (8 * i))
			}
			l, e := Decode(b)
			if e == api.ErrForm && l == nil && (len(b) == 0 || b[0] > 2) {
				continue // no row so short has more values: the table below need not be asked
			}
			w, ok := want[string(b)]
			if ok != (e == api.OK) || !ok && e != api.ErrForm || !slices.Equal(l, w) {
				t.Fatalf("Decode %x: %s, %d; %t", b, showAll(l), e, ok)
			}
		}
	}
}

// changed tells b with something at place i that was not there.
func changed(r *rand.Rand, b []byte, i int) []byte {
	x := []byte{0, 1, 5, 6, 7, 0x0c, 0x0d, 0x7f, 0x80, 0xff, byte(r.Intn(256))}[r.Intn(11)]
	switch b = slices.Clone(b); r.Intn(4) {
	case 0:
		return slices.Insert(b, i, x)
	case 1:
		return slices.Delete(b, i, i+1)
	case 2:
		b[i] ^= 1 << r.Intn(8)
		return b
	}
	b[i] = x
	return b
}

// P6.1: bytes that are nearly a record are read just if they are one.
func TestNearRecords(t *testing.T) {
	r := rand.New(rand.NewSource(66))
	yes, no := 0, 0
	for _, l := range rows() {
		b := spelled(l)
		for range 40 {
			c := changed(r, b, r.Intn(min(len(b), 40)))
			if want, ok := isRecord(c); ok {
				wantRow(t, c, want)
				yes++
			} else {
				wantNoRow(t, c)
				no++
			}
		}
	}
	for range 200000 {
		c := make([]byte, r.Intn(12))
		for i := range c {
			c[i] = byte(r.Intn(18))
		}
		if want, ok := isRecord(c); ok {
			wantRow(t, c, want)
			yes++
		} else {
			wantNoRow(t, c)
			no++
		}
	}
	if yes < 10000 || no < 10000 {
		t.Fatalf("%d records, %d others: this tests too little", yes, no)
	}
}

// P6.1: the chapter sets Decode no bound by MaxRecord: a record that Encode would not tell is read, too.
func TestLongRecords(t *testing.T) {
	for _, l := range [][]api.Value{bound(t, api.MaxRecord+1), slices.Repeat([]api.Value{blob(full("x"))}, api.MaxCols+1)} {
		wantRow(t, spelled(l), l)
		wantNoRow(t, append(spelled(l), 0))
	}
	wantNoRow(t, spelled(slices.Repeat([]api.Value{text(full("x"))}, api.MaxCols+2)))
}

// P6.2: Decode of Encode are the values, and each of them a value; Encode of Decode are the bytes.
func TestUndo(t *testing.T) {
	r := rand.New(rand.NewSource(62))
	for _, l := range rows() {
		b, e := Encode(l)
		if e != api.OK {
			t.Fatalf("Encode %s: %d", showAll(l), e)
		}
		wantRow(t, b, l)
		for range 30 {
			c := changed(r, b, r.Intn(min(len(b), 40)))
			m, e := Decode(c)
			if e != api.OK {
				continue
			}
			for _, v := range m {
				if value.Check(v) != api.OK {
					t.Fatalf("Decode %s: %s", showBytes(c), showAll(m))
				}
			}
			wantBytes(t, m, c)
		}
	}
}

// P6.2: no record is a beginning of another one: a beginning of one is none, nor is one with anything behind.
func TestNoBeginnings(t *testing.T) {
	var all []string
	for i, l := range rows() {
		b, _ := Encode(l)
		all = append(all, string(b))
		for k := range b {
			if k > 60 && k < len(b)-2 && k%97 != i%97 {
				continue
			}
			wantNoRow(t, b[:k])
		}
		for x := range 256 {
			wantNoRow(t, append(slices.Clone(b), byte(x)))
		}
		wantNoRow(t, append(slices.Clone(b), b...))
	}
	slices.Sort(all)
	all = slices.Compact(all)
	for i := 1; i < len(all); i++ {
		if strings.HasPrefix(all[i], all[i-1]) {
			t.Fatalf("%.80x begins %.80x", all[i-1], all[i])
		}
	}
}

// R2: what is handed in stays as it is; what is told is new, with its spare room; nil is an empty list.
func TestMemory(t *testing.T) {
	l := append(make([]api.Value, 0, 9), text("abc"), blob("def"), integer(300))
	b, _ := Encode(l)
	if !slices.Equal(l, []api.Value{text("abc"), blob("def"), integer(300)}) {
		t.Fatalf("changed: %s", showAll(l))
	}
	b = append(make([]byte, 0, 99), b...)
	kept := slices.Clone(b)
	m, _ := Decode(b)
	n, _ := Decode(b)
	if !bytes.Equal(b, kept) || !bytes.Equal(b[:cap(b)][len(b):], make([]byte, cap(b)-len(b))) {
		t.Fatalf("changed: %x", b[:cap(b)])
	}
	for i := range b {
		b[i] = 0xee
	}
	if !slices.Equal(m, l) {
		t.Fatalf("shared with the bytes: %s", showAll(m))
	}
	for i := range m[:cap(m)] {
		m[:cap(m)][i] = integer(9)
	}
	if !slices.Equal(n, l) || !slices.Equal(append(n, null())[:3], l) {
		t.Fatalf("shared with another answer: %s", showAll(n))
	}
	c, _ := Encode(l)
	d, _ := Encode(l)
	for i := range c[:cap(c)] {
		c[:cap(c)][i] = 0xee
	}
	if again, _ := Encode(l); !bytes.Equal(d, kept) || !bytes.Equal(again, kept) {
		t.Fatalf("shared with another answer: %x, %x", d, again)
	}
	wantBytes(t, nil, []byte{0})
	wantBytes(t, []api.Value{}, []byte{0})
	wantNoRow(t, []byte{})
}

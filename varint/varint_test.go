package varint

import (
	"bytes"
	"encoding/hex"
	"fmt"
	"math/rand"
	"slices"
	"strings"
	"testing"

	"cadastre/api"
)

// spelled tells n's bytes as P1.1 says them, from its binary digits and not by shifting.
func spelled(n uint64) []byte {
	digits, tail := fmt.Sprintf("%b", n), ""
	count := (len(digits) + 6) / 7
	if len(digits) > 56 {
		count, tail = 8, digits[len(digits)-8:]
		digits = digits[:len(digits)-8]
	}
	digits = strings.Repeat("0", count*7-len(digits)) + digits
	var b []byte
	for i := range count {
		mark := "1"
		if i == count-1 && tail == "" {
			mark = "0"
		}
		b = append(b, fromDigits(mark+digits[i*7:i*7+7]))
	}
	if tail != "" {
		b = append(b, fromDigits(tail))
	}
	return b
}

func fromDigits(s string) byte {
	var x byte
	for _, c := range s {
		x = x*2 + byte(c-'0')
	}
	return x
}

func unhex(t *testing.T, s string) []byte {
	t.Helper()
	b, err := hex.DecodeString(strings.ReplaceAll(s, " ", ""))
	if err != nil {
		t.Fatal(err)
	}
	return b
}

// samples: all small numbers, the edges of each power of two, and seeded ones of every length in bits; rising.
func samples() []uint64 {
	var l []uint64
	for n := range uint64(1 << 15) {
		l = append(l, n)
	}
	r := rand.New(rand.NewSource(1))
	for k := range 64 {
		p := uint64(1) << k
		l = append(l, p-1, p, p+1, -p, ^p)
		for range 50 {
			l = append(l, p|r.Uint64()&(p-1))
		}
	}
	slices.Sort(l)
	return slices.Compact(l)
}

var named = []struct {
	n uint64
	b string
}{
	{0, "00"},
	{1, "01"},
	{127, "7f"},
	{128, "81 00"},
	{255, "81 7f"},
	{1<<14 - 1, "ff 7f"},
	{1 << 14, "81 80 00"},
	{1<<21 - 1, "ff ff 7f"},
	{1 << 21, "81 80 80 00"},
	{1<<49 - 1, "ff ff ff ff ff ff 7f"},
	{1 << 49, "81 80 80 80 80 80 80 00"},
	{1<<56 - 1, "ff ff ff ff ff ff ff 7f"},
	{1 << 56, "80 c0 80 80 80 80 80 80 00"},
	{1<<56 + 1, "80 c0 80 80 80 80 80 80 01"},
	{1<<57 - 1, "80 ff ff ff ff ff ff ff ff"},
	{1 << 57, "81 80 80 80 80 80 80 80 00"},
	{1<<63 + 127, "c0 80 80 80 80 80 80 80 7f"},
	{1<<63 + 128, "c0 80 80 80 80 80 80 80 80"},
	{1<<64 - 1, "ff ff ff ff ff ff ff ff ff"},
}

// P1.1: the bytes of ordinary numbers and of the edges.
func TestPutNamed(t *testing.T) {
	for _, c := range named {
		if b := Put(c.n); !bytes.Equal(b, unhex(t, c.b)) {
			t.Errorf("Put(%d): % x, want %s", c.n, b, c.b)
		}
	}
}

// P1.1: the bytes of many numbers.
func TestPutMany(t *testing.T) {
	for _, n := range samples() {
		if b := Put(n); !bytes.Equal(b, spelled(n)) {
			t.Fatalf("Put(%d): % x, want % x", n, b, spelled(n))
		}
	}
}

// P1.2: the number and the count of its bytes, alone or with more behind them.
func TestGetNamed(t *testing.T) {
	for _, c := range named {
		for _, behind := range []string{"", "00", "7f", "80", "ff", "80 01", "00 00 00 00 00 00 00 00 00 00"} {
			b := unhex(t, c.b)
			n, size, e := Get(append(unhex(t, c.b), unhex(t, behind)...))
			if n != c.n || size != len(b) || e != api.OK {
				t.Errorf("Get(%s, then %s): %d, %d, %v, want %d, %d", c.b, behind, n, size, e, c.n, len(b))
			}
		}
	}
}

func wantNone(t *testing.T, b []byte) {
	t.Helper()
	if n, size, e := Get(b); n != 0 || size != 0 || e != api.ErrForm {
		t.Errorf("Get(% x): %d, %d, %v, want 0, 0, %v", b, n, size, e, api.ErrForm)
	}
}

// P1.2: no bytes, nil or empty (R2: they are one).
func TestGetNothing(t *testing.T) {
	wantNone(t, nil)
	wantNone(t, []byte{})
	wantNone(t, Put(128)[:0])
}

// P1.2: a beginning of a number's bytes, also where more of them stand in the spare room.
func TestGetBeginning(t *testing.T) {
	for _, n := range samples() {
		b := spelled(n)
		for k := range b {
			wantNone(t, b[:k])
		}
	}
}

// P1.2: bytes that are more than there need be, whatever stands behind.
func TestGetTooMany(t *testing.T) {
	for _, s := range []string{
		"80 00", "80 01", "80 7f",
		"80 80 01", "80 81 00", "80 ff 7f", "80 80 80 00",
		"80 80 80 80 80 80 80 00",
		"80 ff ff ff ff ff ff 7f",
		"80 80 80 80 80 80 80 80 00",
		"80 80 80 80 80 80 80 80 ff",
		"80 80 80 80 80 80 80 81 00",
		"80 81 80 80 80 80 80 80 00",
		"80 bf ff ff ff ff ff ff 00",
		"80 bf ff ff ff ff ff ff ff",
	} {
		wantNone(t, unhex(t, s))
		wantNone(t, append(unhex(t, s), 0))
		wantNone(t, append(unhex(t, s), 0xff))
	}
}

// P1.2: a row of noughts ahead of a number's groups is never the number's.
func TestGetPadded(t *testing.T) {
	for _, n := range samples() {
		if n >= 1<<49 {
			break
		}
		wantNone(t, append([]byte{0x80}, spelled(n)...))
	}
}

// P1.3: Get of Put is the number, whatever stands behind.
func TestGetOfPut(t *testing.T) {
	for _, n := range samples() {
		for _, behind := range [][]byte{nil, {0}, {0xff}, {0x80, 0x80, 0x80, 0x80, 0x80, 0x80, 0x80, 0x80, 0x80}} {
			b := Put(n)
			m, size, e := Get(append(slices.Clone(b), behind...))
			if m != n || size != len(b) || e != api.OK {
				t.Fatalf("Get of Put(%d) and % x: %d, %d, %v", n, behind, m, size, e)
			}
		}
	}
}

// wantPutOfGet: where Get tells a number, Put of it are the bytes that Get took.
func wantPutOfGet(t *testing.T, b []byte) {
	t.Helper()
	n, size, e := Get(b)
	if e == api.ErrForm {
		wantNone(t, b)
		return
	}
	if e != api.OK || size < 1 || size > len(b) || !bytes.Equal(Put(n), b[:size]) {
		t.Fatalf("Get(% x): %d, %d, %v; Put of it: % x", b, n, size, e, Put(n))
	}
}

// P1.3: Put of Get are the bytes: all rows of one and two bytes, and many long ones.
func TestPutOfGet(t *testing.T) {
	for x := range 1 << 16 {
		wantPutOfGet(t, []byte{byte(x)})
		wantPutOfGet(t, []byte{byte(x >> 8), byte(x)})
	}
	edges := []byte{0x00, 0x01, 0x40, 0x7f, 0x80, 0x81, 0xbf, 0xc0, 0xff}
	r := rand.New(rand.NewSource(2))
	for range 200000 {
		b := make([]byte, r.Intn(12))
		for i := range b {
			b[i] = edges[r.Intn(len(edges))]
			if r.Intn(2) == 0 {
				b[i] = byte(r.Intn(256)) | 0x80
			}
		}
		wantPutOfGet(t, b)
	}
}

// P1.3: a greater number has no fewer bytes; and there are 1 to 9.
func TestSizesRise(t *testing.T) {
	size := 1
	for _, n := range samples() {
		k := len(Put(n))
		if k < size || k > 9 {
			t.Fatalf("Put(%d) has %d bytes behind one of %d", n, k, size)
		}
		size = k
	}
	if size != 9 {
		t.Errorf("the greatest number has %d bytes", size)
	}
}

// R2: what Put tells is new, spare room too.
func TestPutTellsNewMemory(t *testing.T) {
	for _, c := range named {
		a, b := Put(c.n), Put(c.n)
		a = a[:cap(a)]
		for i := range a {
			a[i] = 0x55
		}
		if want := unhex(t, c.b); !bytes.Equal(b, want) || !bytes.Equal(Put(c.n), want) {
			t.Errorf("Put(%d) changed by writing into another answer", c.n)
		}
	}
}

// R2: what is handed to Get is not changed, spare room too.
func TestGetChangesNothing(t *testing.T) {
	for _, c := range named {
		b := append(unhex(t, c.b), 1, 2, 3)
		kept := slices.Clone(b)
		Get(b)
		Get(b[:len(b)-4])
		if !bytes.Equal(b, kept) {
			t.Errorf("Get changed % x to % x", kept, b)
		}
	}
}

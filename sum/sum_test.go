package sum

import (
	"bytes"
	"math/big"
	"math/rand"
	"testing"
)

// modulus is that of both halves of a sum.
var modulus = new(big.Int).Lsh(big.NewInt(1), 32)

// want holds Sum against a and b that are known.
func want(t *testing.T, a, b uint32, l []byte, x, y uint32) {
	t.Helper()
	if p, q := Sum(a, b, l); p != x || q != y {
		t.Errorf("Sum(%d, %d, % x) = %d, %d; want %d, %d", a, b, l, p, q, x, y)
	}
}

// oracle tells the sum by numbers without bound, over bytes that were filled up with noughts first.
func oracle(a, b uint32, l []byte) (uint32, uint32) {
	filled := append([]byte{}, l...)
	for len(filled)%8 != 0 {
		filled = append(filled, 0)
	}
	p, q := big.NewInt(int64(a)), big.NewInt(int64(b))
	for i := 0; i < len(filled); i += 8 {
		p.Add(p, new(big.Int).SetBytes(filled[i:i+4]))
		p.Add(p, q)
		p.Mod(p, modulus)
		q.Add(q, new(big.Int).SetBytes(filled[i+4:i+8]))
		q.Add(q, p)
		q.Mod(q, modulus)
	}
	return uint32(p.Uint64()), uint32(q.Uint64())
}

func wantOracle(t *testing.T, a, b uint32, l []byte) {
	t.Helper()
	x, y := oracle(a, b, l)
	want(t, a, b, l, x, y)
}

// starts are beginnings of a and b: none, small ones, halves, and ones at the upper end.
func starts() []uint32 {
	return []uint32{0, 1, 2, 0x7fffffff, 0x80000000, 0xfffffffe, 0xffffffff}
}

// some tells n bytes that hang on the seed alone, none of them nought.
func some(seed int64, n int) []byte {
	r := rand.New(rand.NewSource(seed))
	l := make([]byte, n)
	for i := range l {
		l[i] = byte(1 + r.Intn(255))
	}
	return l
}

// P8.1: the chapter's example.
func TestExample(t *testing.T) {
	want(t, 0, 0, []byte{0, 0, 0, 1, 0, 0, 0, 2}, 1, 3)
}

// P8.1: no bytes leave a and b as they are, a nil list and an empty one alike.
func TestNoBytes(t *testing.T) {
	room := []byte{1, 2, 3, 4, 5, 6, 7, 8}
	for _, a := range starts() {
		for _, b := range starts() {
			want(t, a, b, nil, a, b)
			want(t, a, b, []byte{}, a, b)
			want(t, a, b, room[:0], a, b)
		}
	}
}

// P8.1: a word's highest byte stands first, and the first word goes to a, the second one to b.
func TestPlaces(t *testing.T) {
	for _, c := range []struct {
		l    []byte
		x, y uint32
	}{
		{[]byte{1}, 1 << 24, 1 << 24},
		{[]byte{0, 1}, 1 << 16, 1 << 16},
		{[]byte{0, 0, 1}, 1 << 8, 1 << 8},
		{[]byte{0, 0, 0, 1}, 1, 1},
		{[]byte{0, 0, 0, 0, 1}, 0, 1 << 24},
		{[]byte{0, 0, 0, 0, 0, 1}, 0, 1 << 16},
		{[]byte{0, 0, 0, 0, 0, 0, 1}, 0, 1 << 8},
		{[]byte{0, 0, 0, 0, 0, 0, 0, 1}, 0, 1},
		{[]byte{0x12, 0x34, 0x56, 0x78}, 0x12345678, 0x12345678},
		{[]byte{0, 0, 0, 0, 0x9a, 0xbc, 0xde, 0xf0}, 0, 0x9abcdef0},
		{[]byte{0x80, 0, 0, 1, 0x10, 0, 0, 2}, 0x80000001, 0x90000003},
	} {
		want(t, 0, 0, c.l, c.x, c.y)
	}
}

// P8.1: the second two words go on with what the first two told.
func TestFourWords(t *testing.T) {
	l := []byte{0, 0, 0, 1, 0, 0, 0, 2, 0, 0, 0, 10, 0, 0, 0, 20}
	// a: 100 + 1 + 1000 = 1101, b: 1000 + 2 + 1101 = 2103; a: 1101 + 10 + 2103 = 3214, b: 2103 + 20 + 3214 = 5337.
	want(t, 100, 1000, l, 3214, 5337)
}

// P8.1: every length up to three times two words, of bytes that are not nought and of such that are.
func TestLengths(t *testing.T) {
	for n := 1; n <= 24; n++ {
		full := some(int64(n), n)
		high := bytes.Repeat([]byte{0xff}, n)
		for _, a := range starts() {
			for _, b := range starts() {
				wantOracle(t, a, b, full)
				wantOracle(t, a, b, high)
				wantOracle(t, a, b, make([]byte, n))
			}
		}
		for k := range n {
			holed := append([]byte{}, full...)
			holed[k] = 0
			wantOracle(t, 3, 4, holed)
		}
	}
}

// P8.1: what is behind the bytes up to a multiple of eight is nought, so noughts there change nothing.
func TestNoughtsBehind(t *testing.T) {
	for n := 1; n <= 24; n++ {
		l := some(int64(n), n)
		x, y := Sum(5, 6, l)
		for len(l)%8 != 0 {
			l = append(l, 0)
			want(t, 5, 6, l, x, y)
		}
	}
}

// P8.1: noughts that are two words of their own count: b goes to a, and a to b.
func TestNoughtWords(t *testing.T) {
	want(t, 3, 4, make([]byte, 1), 7, 11)
	want(t, 3, 4, make([]byte, 8), 7, 11)
	want(t, 3, 4, make([]byte, 9), 18, 29)
	want(t, 3, 4, make([]byte, 16), 18, 29)
}

// P8.1: sums are modulo 2^32, that of a, that of b, and both.
func TestBeyond(t *testing.T) {
	// a alone.
	want(t, 0xffffffff, 1, make([]byte, 8), 0, 1)
	want(t, 0xfffffff0, 0, []byte{0, 0, 0, 0x20, 0, 0, 0, 1}, 0x10, 0x11)
	want(t, 0xffffffff, 0xffffffff, []byte{0, 0, 0, 2}, 0, 0xffffffff)
	// b alone.
	want(t, 0, 0, []byte{0, 0, 0, 1, 0xff, 0xff, 0xff, 0xff}, 1, 0)
	want(t, 0x7fffffff, 0x80000000, []byte{0, 0, 0, 0, 0, 0, 0, 2}, 0xffffffff, 0x80000001)
	// Both, a by more than once 2^32.
	want(t, 0xffffffff, 0xffffffff, bytes.Repeat([]byte{0xff}, 8), 0xfffffffd, 0xfffffffb)
}

// P8.1: a and b begin as they are handed in, each with a place of its own.
func TestBegun(t *testing.T) {
	want(t, 1, 0, make([]byte, 8), 1, 1)
	want(t, 0, 1, make([]byte, 8), 1, 2)
	want(t, 1, 2, []byte{0, 0, 0, 3, 0, 0, 0, 4, 0, 0, 0, 5}, 23, 35)
}

// P8.1: many bytes, of lengths about a page, a file's sectors and more.
func TestMany(t *testing.T) {
	for i, n := range []int{63, 64, 65, 511, 512, 513, 4095, 4096, 1 << 16, 1<<16 + 5, 1 << 20} {
		wantOracle(t, 0, 0, some(int64(i), n))
		wantOracle(t, 0xdeadbeef, 0x12345678, some(int64(i), n))
	}
}

// P8.1: any bytes, of any length, from any beginning.
func TestAny(t *testing.T) {
	r := rand.New(rand.NewSource(8))
	for range 20000 {
		l := make([]byte, r.Intn(70))
		r.Read(l)
		wantOracle(t, r.Uint32(), r.Uint32(), l)
	}
}

// R2: what is handed in stays as it is, and its spare room, which counts for nothing.
func TestHandedIn(t *testing.T) {
	for n := 0; n <= 24; n++ {
		whole := some(99, n+16)
		ahead := append([]byte{}, whole...)
		x, y := Sum(7, 8, whole[:n])
		if !bytes.Equal(whole, ahead) {
			t.Errorf("%d bytes: % x became % x", n, ahead, whole)
		}
		want(t, 7, 8, append(make([]byte, 0, n), whole[:n]...), x, y)
		for i := n; i < len(whole); i++ {
			whole[i] ^= 0xff
		}
		want(t, 7, 8, whole[:n], x, y)
	}
}

// R1: the same call tells the same, whatever was asked between.
func TestSame(t *testing.T) {
	l := some(1, 21)
	x, y := Sum(1, 2, l)
	Sum(9, 9, some(2, 40))
	want(t, 1, 2, l, x, y)
}

// P8.2: the second part's sum, begun with that of the first one, is that of both together.
func TestParts(t *testing.T) {
	for n := 0; n <= 50; n++ {
		l := some(int64(n), n)
		for _, a := range starts() {
			for _, b := range starts() {
				x, y := Sum(a, b, l)
				for cut := 0; cut <= n; cut += 8 {
					p, q := Sum(a, b, l[:cut])
					want(t, p, q, l[cut:], x, y)
				}
			}
		}
	}
}

// P8.2: of more than two parts, too: page by page is all of it.
func TestManyParts(t *testing.T) {
	l := some(4, 16*512+13)
	x, y := Sum(0, 0, l)
	p, q := uint32(0), uint32(0)
	for len(l) > 512 {
		p, q = Sum(p, q, l[:512])
		l = l[512:]
	}
	want(t, p, q, l, x, y)
}

// wantTurned asks that no other value of the byte at k leaves the sum as it is.
func wantTurned(t *testing.T, a, b uint32, l []byte, k int) {
	t.Helper()
	x, y := Sum(a, b, l)
	for turn := 1; turn < 256; turn++ {
		l[k] ^= byte(turn)
		if p, q := Sum(a, b, l); p == x && q == y {
			t.Errorf("byte %d of %d turned by %02x: still %d, %d", k, len(l), turn, x, y)
		}
		l[k] ^= byte(turn)
	}
}

// P8.2: one turned byte changes the sum, each byte at each place of a word, whatever is ahead and behind.
func TestTurned(t *testing.T) {
	for n := 1; n <= 40; n++ {
		for k := range n {
			wantTurned(t, 0, 0, some(int64(n), n), k)
			wantTurned(t, 0xffffffff, 0x80000000, make([]byte, n), k)
			wantTurned(t, 1, 2, bytes.Repeat([]byte{0xff}, n), k)
		}
	}
}

// P8.2: a turned byte is seen behind many words, too.
func TestTurnedLong(t *testing.T) {
	l := some(5, 4096)
	for _, k := range []int{0, 1, 2, 3, 4, 5, 6, 7, 8, 2047, 2048, 4088, 4095} {
		wantTurned(t, 0, 0, l, k)
	}
}

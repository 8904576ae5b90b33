package node

import (
	"bytes"
	"encoding/binary"
	"fmt"
	"math"
	"math/rand"
	"slices"
	"testing"

	"cadastre/api"
	"cadastre/varint"
)

const (
	size = 512 // of a page
	free = 505 // bytes of a page behind its head
)

// zeros tells n noughts.
func zeros(n int) []byte { return make([]byte, n) }

// filled tells a cell of n bytes, none of them a nought.
func filled(n int) []byte { return bytes.Repeat([]byte{0xa7}, n) }

// many tells count cells of n bytes each.
func many(count, n int) [][]byte {
	var l [][]byte
	for range count {
		l = append(l, filled(n))
	}
	return l
}

// written tells the cell with its count of bytes ahead, by the words of chapter 1.
func written(c []byte) []byte {
	if len(c) < 128 {
		return append([]byte{byte(len(c))}, c...)
	}
	return append([]byte{0x80 | byte(len(c)>>7), byte(len(c) & 127)}, c...)
}

// built tells the page of these cells, by the chapter's words: from both ends towards the middle.
func built(kind, next int, cells [][]byte) []byte {
	head := []byte{byte(kind)}
	head = binary.BigEndian.AppendUint16(head, uint16(len(cells)))
	head = binary.BigEndian.AppendUint32(head, uint32(next))
	var tail []byte
	for _, c := range cells {
		tail = append(written(c), tail...)
		head = binary.BigEndian.AppendUint16(head, uint16(size-len(tail)))
	}
	return slices.Concat(head, zeros(size-len(head)-len(tail)), tail)
}

// put is a cell's bytes, its count of bytes among them, at a place of a page.
type put struct {
	place int
	text  string
}

// page tells a page of kind 9 with next 77 whose places are those of the puts, in this order, all else being fill.
func page(fill byte, puts ...put) []byte {
	p := bytes.Repeat([]byte{fill}, size)
	head := []byte{9, byte(len(puts) >> 8), byte(len(puts)), 0, 0, 0, 77}
	for _, x := range puts {
		if x.place < size {
			copy(p[x.place:], x.text)
		}
		head = binary.BigEndian.AppendUint16(head, uint16(x.place))
	}
	copy(p, head)
	return p
}

func same(a, b [][]byte) bool { return slices.EqualFunc(a, b, bytes.Equal) }

func clones(l [][]byte) [][]byte {
	var out [][]byte
	for _, c := range l {
		out = append(out, bytes.Clone(c))
	}
	return out
}

func wantPage(t *testing.T, kind, next int, cells [][]byte) {
	t.Helper()
	p, e := Encode(kind, next, cells)
	if e != api.OK || !bytes.Equal(p, built(kind, next, cells)) {
		t.Errorf("Encode(%d, %d, %x) = %x, %v", kind, next, cells, p, e)
		return
	}
	wantCells(t, p, kind, next, cells)
}

func wantNoPage(t *testing.T, kind, next int, cells [][]byte, want api.Errno) {
	t.Helper()
	if p, e := Encode(kind, next, cells); p != nil || e != want {
		t.Errorf("Encode(%d, %d, %d cells) = %x, %v, want %v", kind, next, len(cells), p, e, want)
	}
}

func wantCells(t *testing.T, p []byte, kind, next int, cells [][]byte) {
	t.Helper()
	k, n, l, e := Decode(p)
	if e != api.OK || k != kind || n != next || !same(l, cells) {
		t.Errorf("Decode(%x) = %d, %d, %q, %v, want %d, %d, %q", p, k, n, l, e, kind, next, cells)
	}
}

// wantTexts asks Decode of what page told.
func wantTexts(t *testing.T, p []byte, texts ...string) {
	t.Helper()
	var cells [][]byte
	for _, s := range texts {
		cells = append(cells, []byte(s))
	}
	wantCells(t, p, 9, 77, cells)
}

func wantNoCells(t *testing.T, what string, p []byte) {
	t.Helper()
	if k, n, l, e := Decode(p); k != 0 || n != 0 || l != nil || e != api.ErrForm {
		t.Errorf("%s: Decode(%x) = %d, %d, %q, %v, want ErrForm", what, p, k, n, l, e)
	}
}

func wantRoom(t *testing.T, cells [][]byte, want int) {
	t.Helper()
	if got := Room(cells); got != want {
		t.Errorf("Room of %d cells = %d, want %d", len(cells), got, want)
	}
}

// P11.1: the chapter's example.
func TestExample(t *testing.T) {
	for _, cells := range [][][]byte{nil, {}} {
		p, e := Encode(1, 0, cells)
		if e != api.OK || !bytes.Equal(p, append([]byte{1}, zeros(511)...)) {
			t.Errorf("%x, %v", p, e)
		}
		wantCells(t, p, 1, 0, nil)
	}
}

// P11.1: each byte of a page, spelt out.
func TestBytes(t *testing.T) {
	p, e := Encode(0xfe, 0x8192a3b4, [][]byte{[]byte("first"), {}, filled(128), []byte("\x00")})
	want := []byte{0xfe, 0, 4, 0x81, 0x92, 0xa3, 0xb4, 1, 0xfa, 1, 0xf9, 1, 0x77, 1, 0x75}
	want = append(want, zeros(0x175-15)...)
	want = append(want, 1, 0)
	want = append(append(want, 0x81, 0), filled(128)...)
	want = append(want, 0)
	want = append(append(want, 5), "first"...)
	if e != api.OK || len(p) != api.PageSize || !bytes.Equal(p, want) {
		t.Errorf("%x, %v, want %x", p, e, want)
	}
}

// P11.1: every kind, and nexts of one to four bytes.
func TestKindsAndNexts(t *testing.T) {
	cells := [][]byte{[]byte("abc"), nil}
	for kind := range 256 {
		wantPage(t, kind, 5, cells)
	}
	for _, next := range []int{0, 1, 255, 256, 1<<16 - 1, 1 << 16, 1<<24 - 1, 1 << 24, 1<<31 - 1, 1 << 31, 0x01020304, 0xf0e0d0c0, 1<<32 - 1} {
		wantPage(t, 3, next, cells)
		wantPage(t, 0, next, nil)
		wantPage(t, 255, next, [][]byte{filled(501)})
	}
}

// P11.1: numbers that are no kinds and no nexts; those beyond their bytes would be some, if cut.
func TestWrongNumbers(t *testing.T) {
	kinds := []int{math.MinInt, -1 << 32, -256, -255, -1, 256, 257, 511, 512, 1 << 16, 1 << 32, 1<<32 + 1, math.MaxInt}
	nexts := []int{math.MinInt, math.MinInt32, -1 << 32, -2, -1, 1 << 32, 1<<32 + 1, 1 << 33, 1 << 40, math.MaxInt - 1, math.MaxInt}
	lists := [][][]byte{nil, {nil}, {[]byte("a")}, {filled(501)}, {filled(502)}, many(169, 0)}
	for _, cells := range lists {
		for _, kind := range kinds {
			wantNoPage(t, kind, 0, cells, api.ErrForm)
			wantNoPage(t, kind, 1<<32-1, cells, api.ErrForm)
			for _, next := range nexts {
				wantNoPage(t, kind, next, cells, api.ErrForm)
			}
		}
		for _, next := range nexts {
			wantNoPage(t, 0, next, cells, api.ErrForm)
			wantNoPage(t, 255, next, cells, api.ErrForm)
		}
	}
}

// P11.1, P11.2, P11.3: one cell of each length, that which just fits and that with a byte more among them.
func TestOneCell(t *testing.T) {
	for n := range 600 {
		cells := [][]byte{filled(n)}
		room := free - 2 - len(written(cells[0]))
		wantRoom(t, cells, room)
		if n <= 501 {
			wantPage(t, 4, 6, cells)
		} else {
			wantNoPage(t, 4, 6, cells, api.ErrLimit)
		}
	}
	wantRoom(t, [][]byte{zeros(501)}, 0)
	wantRoom(t, [][]byte{zeros(502)}, -1)
}

// P11.2: counts of bytes of one, two, three and four bytes.
func TestLongCells(t *testing.T) {
	for _, c := range []struct{ n, room int }{
		{0, 502}, {1, 501}, {127, 505 - 2 - 1 - 127}, {128, 505 - 2 - 2 - 128},
		{16383, 505 - 2 - 2 - 16383}, {16384, 505 - 2 - 3 - 16384},
		{1<<21 - 1, 505 - 2 - 3 - (1<<21 - 1)}, {1 << 21, 505 - 2 - 4 - 1<<21},
		{1 << 16, 505 - 2 - 3 - 1<<16}, {1<<16 + 3, 505 - 2 - 3 - (1<<16 + 3)},
	} {
		wantRoom(t, [][]byte{zeros(c.n)}, c.room)
		wantRoom(t, [][]byte{{1}, zeros(c.n), nil}, c.room-4-3)
		if c.room < 0 {
			wantNoPage(t, 0, 0, [][]byte{zeros(c.n)}, api.ErrLimit)
		}
	}
}

// P11.1, P11.2, P11.3: as many cells of one length as there is room for, and one more.
func TestManyCells(t *testing.T) {
	for n := range 300 {
		each := 2 + len(written(filled(n)))
		most := free / each
		for count := range most + 1 {
			wantRoom(t, many(count, n), free-count*each)
		}
		wantPage(t, 1, 2, many(most, n))
		wantNoPage(t, 1, 2, many(most+1, n), api.ErrLimit)
		wantRoom(t, many(most+1, n), free-(most+1)*each)
	}
	wantPage(t, 1, 2, many(168, 0))
	wantNoPage(t, 1, 2, many(169, 0), api.ErrLimit)
	// A count of cells that its two bytes would cut to 0 or 1.
	for _, count := range []int{65535, 65536, 65537, 1 << 17} {
		wantRoom(t, many(count, 0), free-3*count)
		wantNoPage(t, 1, 2, many(count, 0), api.ErrLimit)
	}
}

// P11.1, P11.3: lists that just fill a page, and the same with a byte more in any one of their cells.
func TestFullPages(t *testing.T) {
	for first := range 125 {
		for _, second := range []int{0, 1, 60, 127, 128, 129} {
			cells := [][]byte{filled(first), nil, filled(second)}
			last := Room(cells) - 2 - 2
			if last < 128 {
				t.Fatalf("%d, %d: %d", first, second, last)
			}
			cells = append(cells, filled(last))
			wantRoom(t, cells, 0)
			wantPage(t, 8, 9, cells)
			for i := range cells {
				longer := clones(cells)
				longer[i] = append(longer[i], 1)
				wantNoPage(t, 8, 9, longer, api.ErrLimit)
			}
			wantNoPage(t, 8, 9, append(clones(cells), nil), api.ErrLimit)
		}
	}
}

// P11.1: what has not a page's bytes is no page, though it begins or ends with one.
func TestOtherLengths(t *testing.T) {
	p := built(1, 2, [][]byte{[]byte("abc")})
	wantNoCells(t, "nil", nil)
	wantNoCells(t, "none", []byte{})
	for n := range size {
		wantNoCells(t, "beginning", p[:n])
		wantNoCells(t, "noughts", zeros(n))
		wantNoCells(t, "noughts", zeros(size+1+n))
	}
	wantNoCells(t, "a byte more", append(bytes.Clone(p), 0))
	wantNoCells(t, "a byte ahead", append([]byte{1}, p...))
	wantNoCells(t, "two pages", append(bytes.Clone(p), p...))
}

// P11.1: cells in other places than those of Encode, in any order, with anything between.
func TestOtherPlaces(t *testing.T) {
	for _, fill := range []byte{0, 1, 0x7f, 0x80, 0xff} {
		wantTexts(t, page(fill))
		wantTexts(t, page(fill, put{9, "\x03abc"}), "abc")
		wantTexts(t, page(fill, put{511, "\x00"}), "")
		wantTexts(t, page(fill, put{9, "\x00"}), "")
		wantTexts(t, page(fill, put{15, "\x01a"}, put{13, "\x01b"}, put{17, "\x01c"}), "a", "b", "c")
		wantTexts(t, page(fill, put{300, "\x02ab"}, put{20, "\x00"}, put{303, "\x04wxyz"}, put{508, "\x03end"}), "ab", "", "wxyz", "end")
	}
	wantTexts(t, page(0xff, put{9, "\x83\x75" + string(zeros(501))}), string(zeros(501)))
	wantTexts(t, page(3, put{381, "\x81\x00" + string(filled(128))}, put{379, "\x01\x80"}), string(filled(128)), "\x80")
}

// P11.1: a place within the head or the places, beyond the page, at its end.
func TestWrongPlaces(t *testing.T) {
	// Noughts wherever there may be some, so that an empty cell would stand there.
	for place := range 11 {
		wantNoCells(t, fmt.Sprint("first ", place), page(0, put{place, ""}, put{100, "\x01a"}))
		wantNoCells(t, fmt.Sprint("second ", place), page(0, put{100, "\x01a"}, put{place, ""}))
	}
	for place := 11; place < size; place++ {
		if place != 100 && place != 101 {
			wantTexts(t, page(0, put{100, "\x01a"}, put{place, ""}), "a", "")
		}
	}
	for place := size; place < 1<<16; place++ {
		wantNoCells(t, fmt.Sprint("beyond ", place), page(0, put{place, ""}))
	}
}

// P11.1: a cell that ends with the page, and those that end beyond it.
func TestEnds(t *testing.T) {
	for place := 9; place < size; place++ {
		rest := size - place - 1
		if rest >= 128 {
			rest--
		}
		body := string(filled(size))
		for n := rest - 2; n <= rest+3; n++ {
			if n < 0 {
				continue
			}
			p := page(0, put{place, string(varint.Put(uint64(n))) + body})
			if place+len(written(filled(n))) <= size {
				wantTexts(t, p, body[:n])
			} else {
				wantNoCells(t, fmt.Sprint(place, n), p)
			}
		}
	}
	for _, n := range []uint64{503, 504, 511, 512, 1 << 16, 1<<31 - 1, 1 << 31, 1 << 32, 1<<32 + 1, 1<<63 - 1, 1 << 63, 1<<63 + 1, 1<<64 - 512, 1<<64 - 9, 1<<64 - 1} {
		wantNoCells(t, fmt.Sprint(n), page(0, put{9, string(varint.Put(n))}))
		wantNoCells(t, fmt.Sprint(n), page(0, put{300, string(varint.Put(n))}))
	}
}

// P11.1: a count of bytes that is no varint, one that is not the shortest, one that the page cuts.
func TestWrongCounts(t *testing.T) {
	for _, text := range []string{"\x80", "\x80\x00", "\x80\x01", "\x80\x80\x01", "\x80\x81\x00", "\x80\x80\x80\x80\x80\x80\x80\x80\x01", "\x80\x80\x80\x80\x80\x80\x80\x80\x00"} {
		wantNoCells(t, fmt.Sprintf("%x", text), page(0, put{20, text}))
		wantNoCells(t, fmt.Sprintf("%x", text), page(0, put{100, "\x01a"}, put{20, text}))
	}
	for n := 1; n <= 8; n++ {
		wantNoCells(t, "cut", page(0, put{size - n, string(bytes.Repeat([]byte{0x81}, n))}))
	}
	wantNoCells(t, "noughts in front", page(0xff, put{511, "\x80"}))
	// The head alone spells no cell either.
	wantNoCells(t, "all ff", bytes.Repeat([]byte{0xff}, size))
}

// P11.1: two cells, the second at each place about the first: they may touch, not stand over one another.
func TestOverlaps(t *testing.T) {
	for _, n := range []int{0, 1, 2, 5} {
		for place := 90; place < 120; place++ {
			text := "\x05" + string(zeros(5))
			p := page(0, put{100, text}, put{place, ""})
			// The count of bytes of the second one, where the first one's bytes leave room for it.
			if place != 100 {
				p[place] = byte(n)
			}
			over := place <= 105 && place+n >= 100
			if !over {
				wantTexts(t, p, string(zeros(5)), string(p[place+1:place+1+n]))
				continue
			}
			wantNoCells(t, fmt.Sprint(n, place), p)
			// The other way round, too.
			copy(p[7:11], []byte{byte(place >> 8), byte(place), 0, 100})
			wantNoCells(t, fmt.Sprint(n, place, " turned"), p)
		}
	}
	wantNoCells(t, "one cell twice", page(0, put{50, "\x00"}, put{50, "\x00"}))
	wantNoCells(t, "first and third", page(0, put{50, "\x01a"}, put{60, "\x00"}, put{51, "\x00"}))
	wantNoCells(t, "one in another", page(0, put{50, "\x09"}, put{53, "\x02"}))
	wantNoCells(t, "one about another", page(0, put{53, "\x02"}, put{50, "\x09"}))
}

// P11.1: more places than there is room for, in whichever of the count's bytes.
func TestManyPlaces(t *testing.T) {
	full := built(5, 6, many(168, 0))
	wantCells(t, full, 5, 6, many(168, 0))
	for count := range 1 << 16 {
		p := bytes.Clone(full)
		p[1], p[2] = byte(count>>8), byte(count)
		if count <= 168 {
			wantCells(t, p, 5, 6, many(count, 0))
		} else {
			wantNoCells(t, fmt.Sprint(count), p)
		}
	}
	// 252 places fill the page up to its last byte but one: none leaves a cell.
	for _, count := range []int{167, 168, 169, 251, 252, 253, 256} {
		p := bytes.Repeat([]byte{1}, size)
		p[1], p[2] = byte(count>>8), byte(count)
		wantNoCells(t, fmt.Sprint(count), p)
	}
	p := zeros(size)
	p[2] = 252
	for i := range 252 {
		p[7+2*i], p[8+2*i] = 1, 255
	}
	wantNoCells(t, "252 at the last byte", p)
}

// P11.2: Room asks how many bytes there are, not which, and in any order.
func TestRoom(t *testing.T) {
	wantRoom(t, nil, 505)
	wantRoom(t, [][]byte{}, 505)
	wantRoom(t, [][]byte{nil}, 502)
	wantRoom(t, [][]byte{{}}, 502)
	wantRoom(t, [][]byte{{1, 2, 3}, nil, filled(200)}, 505-6-3-204)
	wantRoom(t, [][]byte{filled(200), nil, {9, 9, 9}}, 505-6-3-204)
	wantRoom(t, [][]byte{filled(127), filled(128)}, 505-130-132)
	wantRoom(t, [][]byte{filled(600), filled(600)}, 505-2*604)
}

// model tells what Decode should, by going through pairs of cells.
func model(p []byte) (cells [][]byte, ok bool) {
	count := int(binary.BigEndian.Uint16(p[1:]))
	behind := 7 + 2*count
	if behind > size {
		return nil, false
	}
	var spans [][2]int
	for i := range count {
		place := int(binary.BigEndian.Uint16(p[7+2*i:]))
		if place < behind || place >= size {
			return nil, false
		}
		n, width, e := varint.Get(p[place:])
		if e != api.OK || n > size || place+width+int(n) > size {
			return nil, false
		}
		end := place + width + int(n)
		for _, s := range spans {
			if place < s[1] && s[0] < end {
				return nil, false
			}
		}
		spans = append(spans, [2]int{place, end})
		cells = append(cells, p[place+width:end])
	}
	return cells, true
}

func wantModel(t *testing.T, p []byte) bool {
	t.Helper()
	cells, ok := model(p)
	if ok {
		wantCells(t, p, int(p[0]), int(binary.BigEndian.Uint32(p[3:])), cells)
	} else {
		wantNoCells(t, "model", p)
	}
	return ok
}

// randomCells tells cells that may fit and may not.
func randomCells(r *rand.Rand) [][]byte {
	var cells [][]byte
	longest := []int{1, 4, 30, 140, 510}[r.Intn(5)]
	for range r.Intn(1 + 700/(longest/2+3)) {
		c := zeros(r.Intn(longest))
		r.Read(c)
		cells = append(cells, c)
	}
	return cells
}

// P11.3: Decode of Encode, and Encode refused just where Room is below 0.
func TestThereAndBack(t *testing.T) {
	r := rand.New(rand.NewSource(11))
	fit := 0
	for range 20000 {
		kind, next, cells := r.Intn(256), int(r.Uint32()), randomCells(r)
		room := free
		for _, c := range cells {
			room -= 2 + len(written(c))
		}
		wantRoom(t, cells, room)
		if room < 0 {
			wantNoPage(t, kind, next, cells, api.ErrLimit)
			continue
		}
		fit++
		wantPage(t, kind, next, cells)
	}
	if fit < 2000 || fit > 18000 {
		t.Errorf("%d of 20000 fit: too few of one sort", fit)
	}
}

// P11.1: pages with some bytes changed, against the model.
func TestChangedPages(t *testing.T) {
	r := rand.New(rand.NewSource(12))
	good, bad := 0, 0
	for range 60000 {
		cells := randomCells(r)
		for Room(cells) < 0 {
			cells = cells[:len(cells)-1]
		}
		p := built(r.Intn(256), int(r.Uint32()), cells)
		for range 1 + r.Intn(3) {
			// Mostly in the head and the places, where a change counts.
			at := r.Intn(min(size, 8+2*len(cells)))
			if r.Intn(4) == 0 {
				at = r.Intn(size)
			}
			p[at] += byte(r.Intn(5) - 2)
		}
		if wantModel(t, p) {
			good++
		} else {
			bad++
		}
	}
	if good < 3000 || bad < 3000 {
		t.Errorf("%d good, %d bad: too few of one sort", good, bad)
	}
}

// P11.1: few cells at random places on pages of small bytes, against the model.
func TestRandomPages(t *testing.T) {
	r := rand.New(rand.NewSource(13))
	good, bad := 0, 0
	for range 60000 {
		p := zeros(size)
		for i := range p {
			p[i] = byte(r.Intn(40))
		}
		count := r.Intn(9)
		p[1], p[2] = 0, byte(count)
		for i := range count {
			binary.BigEndian.PutUint16(p[7+2*i:], uint16(r.Intn(size+4)))
		}
		if wantModel(t, p) {
			good++
		} else {
			bad++
		}
	}
	if good < 3000 || bad < 3000 {
		t.Errorf("%d good, %d bad: too few of one sort", good, bad)
	}
}

// R2: what is handed in is not changed, though it has spare room.
func TestInputsStay(t *testing.T) {
	block := filled(100)
	cells := [][]byte{block[0:10], block[10:10], block[10:40:50], block[40:90], block[0:10]}
	kept, before := clones(cells), bytes.Clone(block)
	wantPage(t, 1, 2, cells)
	Room(cells)
	wantNoPage(t, 256, 2, cells, api.ErrForm)
	wantNoPage(t, 1, 2, append(slices.Clone(cells), filled(500)), api.ErrLimit)
	if !same(cells, kept) || !bytes.Equal(block, before) {
		t.Error("Encode has changed its cells")
	}
	p := built(1, 2, cells)
	copied := bytes.Clone(p)
	Decode(p)
	if !bytes.Equal(p, copied) {
		t.Error("Decode has changed its page")
	}
}

// R2: what is told is new memory, spare room too.
func TestNewMemory(t *testing.T) {
	cells := [][]byte{[]byte("abc"), {}, []byte("defg")}
	p, _ := Encode(1, 2, cells)
	again, _ := Encode(1, 2, cells)
	clear(p[:cap(p)])
	if string(cells[0]) != "abc" || string(cells[2]) != "defg" || !bytes.Equal(again, built(1, 2, cells)) {
		t.Error("a page shares memory")
	}
	_, _, l, _ := Decode(again)
	_, _, other, _ := Decode(again)
	for i := range l {
		full := l[i][:cap(l[i])]
		for j := range full {
			full[j] = 0xee
		}
		l[i] = append(l[i], 0xee)
		for j := i + 1; j < len(l); j++ {
			if !bytes.Equal(l[j], cells[j]) {
				t.Errorf("cells %d and %d share memory", i, j)
			}
		}
	}
	l = append(l, []byte("x"))
	clear(l[:cap(l)])
	if !same(other, cells) || !bytes.Equal(again, built(1, 2, cells)) {
		t.Error("cells share memory")
	}
	clear(again)
	if !same(other, cells) {
		t.Error("cells are their page's memory")
	}
}

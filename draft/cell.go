package draft

import (
	"slices"

	"cadastre/api"
	"cadastre/node"
)

// A cell holds bytes: 2 bytes tell how many, and behind them they stand themselves, or, if they are many, the page of their
// first piece.
const (
	lengthSize = 2
	PlaceSize  = 2 // bytes of a page's number
)

// Short is how many bytes a cell holds itself at most: with them, and with a row's number ahead, it takes a quarter of a page.
const Short = 113

// Piece is how many bytes fit on a page as its only cell. All pages of many bytes but the last hold so many, and each tells the
// next one; the last one tells 0, which no held page is.
const Piece = 501

// KindPiece is the kind of a page with a piece.
const KindPiece = 3

// Store tells the cell that holds data, and lays many bytes on pages of their own.
func (d *Draft) Store(data []byte) []byte {
	if len(data) <= Short {
		return cell(len(data), data)
	}
	parts := slices.Collect(slices.Chunk(data, Piece))
	at := make([]int, len(parts)+1)
	for i := range parts {
		at[i] = d.Take()
	}
	for i, part := range parts {
		d.Put(at[i], KindPiece, at[i+1], [][]byte{part})
	}
	return cell(len(data), Digits(uint64(at[0]), PlaceSize))
}

func cell(length int, tail []byte) []byte {
	return slices.Concat(Digits(uint64(length), lengthSize), tail)
}

// IsCell asks whether c is a cell that holds bytes.
func IsCell(c []byte) bool {
	if len(c) < lengthSize {
		return false
	}
	n := length(c)
	if n <= Short {
		return len(c) == lengthSize+n
	}
	return n <= api.MaxRecord && len(c) == lengthSize+PlaceSize
}

// length tells how many bytes the cell c holds.
func length(c []byte) int { return int(Number(c[:lengthSize])) }

// Read tells the bytes that the cell c holds, and the pages on which they lie, if they are many; ErrForm, if they do not lie there.
func (d *Draft) Read(c []byte) (at []int, data []byte, e api.Errno) {
	size := length(c)
	if size <= Short {
		return nil, c[lengthSize:], api.OK
	}
	n := int(Number(c[lengthSize:]))
next:
	part, behind, e := d.readPiece(n)
	if e != api.OK {
		return nil, nil, e
	}
	if len(part) != min(Piece, size-len(data)) {
		return nil, nil, api.ErrForm
	}
	at, data = append(at, n), append(data, part...)
	if len(data) < size {
		n = behind
		goto next
	}
	if behind != 0 {
		return nil, nil, api.ErrForm
	}
	return at, data, api.OK
}

// readPiece tells the piece on page n, and the page that it tells.
func (d *Draft) readPiece(n int) ([]byte, int, api.Errno) {
	kind, behind, cells, e := d.Load(n)
	if e != api.OK {
		return nil, 0, e
	}
	if kind != KindPiece || len(cells) != 1 {
		return nil, 0, api.ErrForm
	}
	return cells[0], behind, api.OK
}

// Cost tells how many bytes of a page the cells take.
func Cost(cells [][]byte) int { return node.Room(nil) - node.Room(cells) }

// Half tells how many of the cells, from the first one on, take half of all that they take, or little more.
func Half(cells [][]byte) int {
	whole, left, i := Cost(cells), 0, 0
	for 2*left < whole {
		left += Cost(cells[i : i+1])
		i++
	}
	return i
}

// Number tells the number whose bytes b are, the highest first.
func Number(b []byte) uint64 {
	var n uint64
	for _, x := range b {
		n = n<<8 | uint64(x)
	}
	return n
}

// Digits tells n's lowest bytes, so many of them, the highest first.
func Digits(n uint64, size int) []byte {
	b := make([]byte, size)
	for i := size - 1; i >= 0; i-- {
		b[i] = byte(n)
		n >>= 8
	}
	return b
}

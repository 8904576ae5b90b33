package tree

import (
	"slices"

	"cadastre/api"
	"cadastre/node"
	"cadastre/pages"
)

// piece is how many bytes of a long record fit on a page as its only cell. All pages of a record but the last hold so many, and
// each tells the next one; the last one tells 0, which no held page is.
const piece = 501

// isRecord asks whether c is a leaf's cell.
func isRecord(c []byte) bool {
	if len(c) < headSize {
		return false
	}
	n := length(c)
	if n <= short {
		return len(c) == headSize+n
	}
	return n <= api.MaxRecord && len(c) == headSize+placeSize
}

// length tells how many bytes a leaf's cell is for.
func length(c []byte) int { return int(number(c[keySize:headSize])) }

// recordCell tells a leaf's cell: tail is the bytes themselves, or the page of their first piece.
func recordCell(key int64, length int, tail []byte) []byte {
	return slices.Concat(digits(uint64(key), keySize), digits(uint64(length), lengthSize), tail)
}

// record tells the bytes of a leaf's cell c, and the pages on which they lie, if it is a long one.
func record(g *pages.Pages, c []byte) (at []int, data []byte, e api.Errno) {
	size := length(c)
	if size <= short {
		return nil, c[headSize:], api.OK
	}
	n := int(number(c[headSize:]))
next:
	part, behind, e := readPiece(g, n)
	if e != api.OK {
		return nil, nil, e
	}
	if len(part) != min(piece, size-len(data)) {
		return nil, nil, api.ErrForm
	}
	at, data = append(at, n), append(data, part...)
	if len(data) < size {
		n = behind
		goto next
	}
	if behind != 0 {
		return nil, nil, api.ErrForm
	}
	return at, data, api.OK
}

// readPiece tells the piece of a record on page n, and the page that it tells.
func readPiece(g *pages.Pages, n int) ([]byte, int, api.Errno) {
	p, e := g.Read(n)
	if e != api.OK {
		return nil, 0, e
	}
	kind, behind, cells, e := node.Decode(p)
	if e != api.OK {
		return nil, 0, e
	}
	if kind != kindRest || len(cells) != 1 {
		return nil, 0, api.ErrForm
	}
	return cells[0], behind, api.OK
}

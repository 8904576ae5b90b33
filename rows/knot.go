package rows

import (
	"cmp"
	"slices"

	"cadastre/api"
	"cadastre/draft"
	"cadastre/node"
)

// A tree's pages are nodes (11), here called knots. A leaf's cells are keys with their bytes, a fork's are keys with the pages
// of knots: below a cell lie the keys from its own on, up to the next cell's. A fork's first key is that of the cell above it,
// the root's the least int64. All leaves lie equally deep; no knot but the root is thin, and no fork has fewer than two cells.
const (
	kindLeaf = 1 + iota
	kindFork
)

// keySize is how many bytes a cell's key has, the highest first. Behind it stands, in a leaf, the cell that holds its bytes, in
// a fork a page's number. A leaf's cell takes a quarter of a page at most, so that what is too much for a page can be cut in two
// that are not thin.
const keySize = 8

// deepest is more forks than a way down has: with as many, each of them twofold, there would be more than MaxPages, 2^12, leaves.
const deepest = 13

// knot is a leaf or a fork.
type knot struct {
	at    int // its page
	kind  int
	cells [][]byte // their keys rise
}

// load tells the knot on page at; ErrForm, if none lies there.
func load(d *draft.Draft, at int) (knot, api.Errno) {
	kind, next, cells, e := d.Load(at)
	if e != api.OK {
		return knot{}, e
	}
	x := knot{at, kind, cells}
	if next != 0 || !x.formed() || !x.rises() {
		return knot{}, api.ErrForm
	}
	return x, api.OK
}

// formed asks whether the cells are those of a knot of its kind.
func (x knot) formed() bool {
	switch x.kind {
	case kindLeaf:
		return !slices.ContainsFunc(x.cells, func(c []byte) bool { return !isRecord(c) })
	case kindFork:
		return len(x.cells) > 1 && !slices.ContainsFunc(x.cells, func(c []byte) bool { return len(c) != keySize+draft.PlaceSize })
	}
	return false
}

func (x knot) rises() bool {
	for i := 1; i < len(x.cells); i++ {
		if x.key(i-1) >= x.key(i) {
			return false
		}
	}
	return true
}

func (x knot) key(i int) int64 { return keyOf(x.cells[i]) }

// bytes tells the part of a leaf's cell that holds the key's bytes.
func (x knot) bytes(i int) []byte { return x.cells[i][keySize:] }

// find tells where the key stands, or would, and whether it is there.
func (x knot) find(key int64) (int, bool) {
	return slices.BinarySearchFunc(x.cells, key, func(c []byte, k int64) int { return cmp.Compare(keyOf(c), k) })
}

// way tells which of a fork's cells the key lies below.
func (x knot) way(key int64) int {
	i, found := x.find(key)
	if !found && i > 0 {
		i--
	}
	return i
}

// child tells the page below a fork's cell.
func (x knot) child(i int) int { return int(draft.Number(x.cells[i][keySize:])) }

// thin asks whether cells take less than a quarter of a page.
func thin(cells [][]byte) bool { return 4*draft.Cost(cells) < node.Room(nil) }

// cut tells the cells in one part, or, if these do not fit on a page, in two that are about as long.
func cut(cells [][]byte) [][][]byte {
	if node.Room(cells) >= 0 {
		return [][][]byte{cells}
	}
	i := draft.Half(cells)
	return [][][]byte{cells[:i], cells[i:]}
}

func keyOf(cell []byte) int64 { return int64(draft.Number(cell[:keySize])) }

// isRecord asks whether c is a leaf's cell.
func isRecord(c []byte) bool { return len(c) >= keySize && draft.IsCell(c[keySize:]) }

// forkCell tells a fork's cell.
func forkCell(key int64, at int) []byte {
	return slices.Concat(draft.Digits(uint64(key), keySize), draft.Digits(uint64(at), draft.PlaceSize))
}

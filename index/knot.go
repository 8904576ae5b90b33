package index

import (
	"slices"

	"cadastre/api"
	"cadastre/draft"
	"cadastre/keys"
	"cadastre/pages"
	"cadastre/record"
)

// An index's pages are nodes (11), here called knots. A leaf's cells are keys; a fork's are the pages of knots, each but the
// first one with a bound, a key, behind it: below a cell lie the keys from its bound on, up to the next cell's. Keys and bounds
// are records (6), and rise. All leaves lie equally deep, and no knot but the root is without cells.
//
// A bound need not be one of the keys, nor become another one if its key goes: so Delete makes no cell longer, and needs no page.
const (
	kindLeaf = 4 + iota
	kindFork
)

// knot is a leaf or a fork.
type knot struct {
	at    int // its page
	kind  int
	cells [][]byte
}

// load tells the knot on page at; ErrForm, if none lies there. It does not ask whether its keys rise: they may be long.
func load(g *pages.Pages, at int) (knot, api.Errno) {
	kind, next, cells, e := draft.On(g).Load(at)
	if e != api.OK {
		return knot{}, e
	}
	x := knot{at, kind, cells}
	if next != 0 || !x.formed() {
		return knot{}, api.ErrForm
	}
	return x, api.OK
}

// formed asks whether the cells are those of a knot of its kind.
func (x knot) formed() bool {
	switch x.kind {
	case kindLeaf:
		return allCells(x.cells, 0)
	case kindFork:
		return len(x.cells) > 0 && len(x.cells[0]) == draft.PlaceSize && allCells(x.cells[1:], draft.PlaceSize)
	}
	return false
}

// allCells asks whether each of l, but for its first bytes, so many of them, is a cell that holds bytes.
func allCells(l [][]byte, ahead int) bool {
	return !slices.ContainsFunc(l, func(c []byte) bool { return len(c) < ahead || !draft.IsCell(c[ahead:]) })
}

// child tells the page below a fork's cell.
func (x knot) child(i int) int { return int(draft.Number(x.cells[i][:draft.PlaceSize])) }

// holder tells the cell that holds key i, of a fork bound i (the first one has none).
func (x knot) holder(i int) []byte {
	if x.kind == kindFork {
		return x.cells[i][draft.PlaceSize:]
	}
	return x.cells[i]
}

// key tells key i, of a fork bound i.
func (x knot) key(g *pages.Pages, i int) ([]api.Value, api.Errno) {
	_, k, e := readKey(g, x.holder(i))
	return k, e
}

// find tells where the least key, or bound, stands that is not below k, and whether it is k.
func (x knot) find(g *pages.Pages, k []api.Value) (int, bool, api.Errno) {
	low, high := 0, len(x.cells)
	if x.kind == kindFork {
		low = 1
	}
halve:
	if low == high {
		return low, false, api.OK
	}
	middle := low + (high-low)/2
	key, e := x.key(g, middle)
	if e != api.OK {
		return 0, false, e
	}
	switch c, _ := keys.Cmp(key, k); c {
	case 0:
		return middle, true, api.OK
	case -1:
		low = middle + 1
	default:
		high = middle
	}
	goto halve
}

// readKey tells the key that the cell c holds, and the pages on which it lies, if it is long.
func readKey(g *pages.Pages, c []byte) (at []int, k []api.Value, e api.Errno) {
	at, data, e := draft.On(g).Read(c)
	if e != api.OK {
		return nil, nil, e
	}
	if k, e = record.Decode(data); e != api.OK {
		return nil, nil, e
	}
	return at, k, api.OK
}

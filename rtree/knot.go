package rtree

import (
	"slices"

	"cadastre/api"
	"cadastre/box"
	"cadastre/draft"
)

// The pages of a tree of boxes are nodes (11), here called knots. A leaf's entries are those of the tree; a fork's tell knots:
// each has a knot's page in the place of an identity, and the least box around all that lies below. All leaves lie equally deep.
// No knot has more than Fan entries; the root has any other number, as a fork two at least, all others have FanLow at least.
//
// The root's next, and none but the root has one, is the root of a tree (14), the directory: of each identity it holds the box,
// so that an entry is found without going through all leaves.
const (
	kindLeaf = 6 + iota
	kindFork
)

// How many bytes the parts of a cell have, the highest first: an identity, then a box's corners, each with two coordinates.
const (
	idSize     = 8
	coordSize  = 4
	cornerSize = 2 * coordSize
	boxSize    = 2 * cornerSize
)

// deepest is more forks than a way down has: below as many there would be more than MaxPages, 2^12, leaves: 2 * 3^7.
const deepest = 8

// knot is a leaf or a fork.
type knot struct {
	at   int // its page
	kind int
	next int
	list []api.Entry
}

// loadRoot tells the root on page at; ErrForm, if none lies there.
func loadRoot(d *draft.Draft, at int) (knot, api.Errno) {
	x, e := load(d, at)
	if e == api.OK && x.next == 0 {
		return knot{}, api.ErrForm
	}
	return x, e
}

// loadBelow tells the knot that a fork's entry tells of; ErrForm, if none lies there.
func loadBelow(d *draft.Draft, above api.Entry) (knot, api.Errno) {
	x, e := load(d, int(above.ID))
	if e == api.OK && x.next != 0 {
		return knot{}, api.ErrForm
	}
	return x, e
}

// load tells the knot on page at, by its next the root or another one.
func load(d *draft.Draft, at int) (knot, api.Errno) {
	kind, next, cells, e := d.Load(at)
	if e != api.OK {
		return knot{}, e
	}
	x := knot{at: at, kind: kind, next: next}
	for _, c := range cells {
		y, ok := entryOf(c)
		if !ok {
			return knot{}, api.ErrForm
		}
		x.list = append(x.list, y)
	}
	if kind != kindLeaf && kind != kindFork || len(x.list) < x.fewest() || len(x.list) > api.Fan {
		return knot{}, api.ErrForm
	}
	return x, api.OK
}

// fewest tells how many entries the knot has at least.
func (x knot) fewest() int {
	switch {
	case x.next == 0:
		return api.FanLow
	case x.kind == kindFork:
		return 2
	}
	return 0
}

// around tells the least box around those of l, which is not empty.
func around(l []api.Entry) api.Box {
	b := l[0].Box
	for _, x := range l {
		b, _ = box.Join(b, x.Box)
	}
	return b
}

// cells tells those of the entries of l.
func cells(l []api.Entry) [][]byte {
	var c [][]byte
	for _, x := range l {
		c = append(c, slices.Concat(draft.Digits(uint64(x.ID), idSize), boxBytes(x.Box)))
	}
	return c
}

// entryOf tells the entry whose cell c is, and whether it is one's.
func entryOf(c []byte) (api.Entry, bool) {
	if len(c) < idSize {
		return api.Entry{}, false
	}
	b, ok := boxOf(c[idSize:])
	return api.Entry{ID: int64(draft.Number(c[:idSize])), Box: b}, ok
}

// boxBytes tells the bytes of the box b.
func boxBytes(b api.Box) []byte { return slices.Concat(cornerBytes(b.Lo), cornerBytes(b.Hi)) }

func cornerBytes(c complex128) []byte {
	return slices.Concat(coordBytes(real(c)), coordBytes(imag(c)))
}

func coordBytes(f float64) []byte { return draft.Digits(uint64(int64(f)), coordSize) }

// boxOf tells the box whose bytes b are, and whether they are one's.
func boxOf(b []byte) (api.Box, bool) {
	if len(b) != boxSize {
		return api.Box{}, false
	}
	x := api.Box{Lo: cornerOf(b[:cornerSize]), Hi: cornerOf(b[cornerSize:])}
	return x, box.Check(x) == api.OK
}

func cornerOf(b []byte) complex128 { return complex(coordOf(b[:coordSize]), coordOf(b[coordSize:])) }

func coordOf(b []byte) float64 { return float64(int32(draft.Number(b))) }

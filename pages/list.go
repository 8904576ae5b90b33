package pages

import "cadastre/api"

// What is held lies in lists of bits, each on the first of the pages that it tells of: so that page is never held, and the
// bit that would be its own tells whether there is another list behind. The first list is on page 0. The room ahead of its
// bits is the roots'. Whatever bytes lie there are some lists and roots: there is no wrong page 0.
const (
	roots    = 8
	rootSize = 2
	byteBits = 8

	bitsAt = roots * rootSize
	span   = (api.PageSize - bitsAt) * byteBits // how many pages a list has bits for
)

// list is one of the lists.
type list struct {
	first int // where it lies
	page  []byte
}

// end tells the page behind those that the list tells of.
func (x list) end() int { return min(x.first+span, api.MaxPages) }

// place tells in which byte page n's bit stands, and which one it is.
func (x list) place(n int) (int, byte) {
	k := n - x.first
	return bitsAt + k/byteBits, 1 << (k % byteBits)
}

func (x list) bit(n int) bool {
	at, b := x.place(n)
	return x.page[at]&b != 0
}

func (x list) turn(n int) {
	at, b := x.place(n)
	x.page[at] ^= b
}

// has asks whether page n is held by this list.
func (x list) has(n int) bool { return n > x.first && n < x.end() && x.bit(n) }

// more asks whether there is another list behind.
func (x list) more() bool { return x.bit(x.first) && x.end() < api.MaxPages }

// free tells the least page of the list's that is not held, and whether there is one. The least one, so that no page is
// begun while there is one that was freed.
func (x list) free() (int, bool) {
	for n := x.first + 1; n < x.end(); n++ {
		if !x.bit(n) {
			return n, true
		}
	}
	return 0, false
}

// appendTo appends the pages that are held by the list.
func (x list) appendTo(l []int) []int {
	for n := x.first + 1; n < x.end(); n++ {
		if x.bit(n) {
			l = append(l, n)
		}
	}
	return l
}

func isRoot(i int) bool { return i >= 0 && i < roots }

func (x list) root(i int) int {
	at := i * rootSize
	return (int(x.page[at])<<byteBits | int(x.page[at+1])) % api.MaxPages
}

func (x list) setRoot(i, n int) {
	at := i * rootSize
	x.page[at], x.page[at+1] = byte(n>>byteBits), byte(n)
}

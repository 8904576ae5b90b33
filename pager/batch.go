package pager

import (
	"cadastre/api"
	"cadastre/sum"
)

// Kinds of batches.
const (
	batchNone   = iota
	batchBase   // the journal, while base is being changed: its pages as they were
	batchLog    // the journal, while the log is being appended to: no pages
	batchCommit // of the log: a commit's pages
)

// Where a head's numbers stand, of wordSize bytes each, and its sum behind them.
const (
	kindAt  = 0
	countAt = 4
	placeAt = 8
	manyAt  = 12
	sumAt   = 16

	wordSize = 4
	sumSize  = 2 * wordSize
)

const (
	// A head is one sector, and torn in a new file it is its own beginning with noughts behind: so its last byte, which is
	// no nought, tells whether it is whole.
	headSize = api.Sector
	headEnd  = headSize - 1
	whole    = 0xa5

	// A page's number has as many bytes as leave the sum's pairs of words in step.
	numberSize = 8
	leafSize   = numberSize + api.PageSize
)

// leaf is a page with its number.
type leaf struct {
	n    int
	page []byte
}

// batch is a head with pages behind it, their numbers rising. The journal is one, the log one behind the other.
type batch struct {
	kind  int
	count int // how many pages there are: ahead of the commit in the journal, behind it in the log
	place int // how many bytes the log has ahead of the commit
	pages []leaf
}

func (b batch) size() int { return headSize + len(b.pages)*leafSize }

// encode tells the batch's bytes.
func (b batch) encode() []byte {
	l := make([]byte, headSize, b.size())
	putNumber(l[kindAt:countAt], b.kind)
	putNumber(l[countAt:placeAt], b.count)
	putNumber(l[placeAt:manyAt], b.place)
	putNumber(l[manyAt:sumAt], len(b.pages))
	for _, x := range b.pages {
		var number [numberSize]byte
		putNumber(number[:], x.n)
		l = append(append(l, number[:]...), x.page...)
	}
	s := sumOf(l)
	copy(l[sumAt:], s[:])
	l[headEnd] = whole
	return l
}

// decode tells the batch with whose bytes l begins; its pages share l's memory. None: of batchNone.
func decode(l []byte) batch {
	if len(l) < headSize || l[headEnd] != whole {
		return batch{}
	}
	b := batch{kind: number(l[kindAt:countAt]), count: number(l[countAt:placeAt]), place: number(l[placeAt:manyAt])}
	many := number(l[manyAt:sumAt])
	if b.count > api.MaxPages || b.place > api.MaxFile || many > b.count || headSize+many*leafSize > len(l) {
		return batch{}
	}
	l = l[:headSize+many*leafSize]
	b.pages = leaves(l[headSize:])
	if sumOf(l) != [sumSize]byte(l[sumAt:sumAt+sumSize]) || !rise(b.pages, b.count) {
		return batch{}
	}
	return b
}

// leaves tells the pages whose bytes l are.
func leaves(l []byte) []leaf {
	var pages []leaf
next:
	if len(l) == 0 {
		return pages
	}
	pages = append(pages, leaf{number(l[:numberSize]), l[numberSize:leafSize]})
	l = l[leafSize:]
	goto next
}

// rise asks whether the pages' numbers rise, and stay below count.
func rise(pages []leaf, count int) bool {
	least := 0
	for _, x := range pages {
		if x.n < least || x.n >= count {
			return false
		}
		least = x.n + 1
	}
	return true
}

// leafAt tells where, in a batch's bytes, those of its page i begin.
func leafAt(i int) int { return headSize + i*leafSize + numberSize }

// sumOf tells the sum of a batch's numbers and pages.
func sumOf(l []byte) [sumSize]byte {
	a, b := sum.Sum(0, 0, l[:sumAt])
	a, b = sum.Sum(a, b, l[headSize:])
	var s [sumSize]byte
	putNumber(s[:wordSize], int(a))
	putNumber(s[wordSize:], int(b))
	return s
}

// number tells the number whose bytes b are, the highest first.
func number(b []byte) int {
	n := 0
	for _, x := range b {
		n = n<<8 | int(x)
	}
	return n
}

// putNumber writes n into b, the highest byte first.
func putNumber(b []byte, n int) {
	for i := len(b) - 1; i >= 0; i-- {
		b[i] = byte(n)
		n >>= 8
	}
}

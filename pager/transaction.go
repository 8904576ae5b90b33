package pager

import (
	"bytes"
	"cmp"
	"maps"
	"slices"
)

// transaction is what one sees: what was committed when it began, and its own pages over that.
type transaction struct {
	was   view
	count int            // how many pages there are
	own   map[int][]byte // by number; what stands there is never written into
	marks []mark         // their numbers rise
	told  int            // the last mark's number, one that was undone too
}

// mark is a state to go back to.
type mark struct {
	number int
	count  int
	own    map[int][]byte // pages that were written since, up to the next mark, as they were at this one; nil: not the transaction's own
}

func begun(v view) transaction { return transaction{was: v, count: v.count, own: map[int][]byte{}} }

func (t *transaction) write(n int, page []byte) {
	if len(t.marks) > 0 {
		last := t.marks[len(t.marks)-1].own
		if _, kept := last[n]; !kept {
			last[n] = t.own[n]
		}
	}
	t.own[n] = bytes.Clone(page)
	t.count = max(t.count, n+1)
}

// pages tells the transaction's own pages, their numbers rising.
func (t *transaction) pages() []leaf {
	var l []leaf
	for _, n := range slices.Sorted(maps.Keys(t.own)) {
		l = append(l, leaf{n, t.own[n]})
	}
	return l
}

// mark tells a number that none had before in this transaction, so that one that was undone comes never again.
func (t *transaction) mark() int {
	t.told++
	t.marks = append(t.marks, mark{t.told, t.count, map[int][]byte{}})
	return t.told
}

// back goes back to the mark of that number, and tells whether there is one.
func (t *transaction) back(number int) bool {
	i, found := slices.BinarySearchFunc(t.marks, number, func(m mark, n int) int { return cmp.Compare(m.number, n) })
	if !found {
		return false
	}
	for _, m := range slices.Backward(t.marks[i:]) {
		t.restore(m)
	}
	t.marks = slices.Delete(t.marks, i+1, len(t.marks))
	return true
}

func (t *transaction) restore(m mark) {
	for n, page := range m.own {
		if page == nil {
			delete(t.own, n)
		} else {
			t.own[n] = page
		}
	}
	t.count = m.count
}

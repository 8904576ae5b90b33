// Package rows: trees of rows by number, as changes to pages (draft): several changes, to several trees, may be one whole.
// Package tree (14) is made of it.
package rows

import (
	"slices"

	"cadastre/api"
	"cadastre/draft"
)

// New plans a tree without keys, and tells its root.
func New(d *draft.Draft) int { return d.New(kindLeaf, 0) }

// Get tells the key's bytes, and whether it is there.
func Get(d *draft.Draft, root int, key int64) (data []byte, there bool, e api.Errno) {
	path, e := down(d, root, key)
	if e != api.OK {
		return nil, false, e
	}
	leaf := path[len(path)-1]
	i, there := leaf.find(key)
	if !there {
		return nil, false, api.OK
	}
	_, data, e = d.Read(leaf.bytes(i))
	if e != api.OK {
		return nil, false, e
	}
	return data, true, api.OK
}

// Next tells the least key above key, or, with from, not below it, its bytes, and whether there is one.
func Next(d *draft.Draft, root int, key int64, from bool) (k int64, data []byte, there bool, e api.Errno) {
next:
	path, e := down(d, root, key)
	if e != api.OK {
		return 0, nil, false, e
	}
	leaf := path[len(path)-1]
	i, found := leaf.find(key)
	if found && !from {
		i++
	}
	if i < len(leaf.cells) {
		_, data, e := d.Read(leaf.bytes(i))
		if e != api.OK {
			return 0, nil, false, e
		}
		return leaf.key(i), data, true, api.OK
	}
	if bound, more := boundOf(path); more {
		key, from = bound, true
		goto next
	}
	return 0, nil, false, api.OK
}

// Pages tells a tree's pages, rising.
func Pages(d *draft.Draft, root int) ([]int, api.Errno) {
	s, e := look(d, root)
	if e != api.OK {
		return nil, e
	}
	slices.Sort(s.pages)
	return s.pages, api.OK
}

// Dump tells a tree's keys, rising, and their bytes.
func Dump(d *draft.Draft, root int) ([]int64, [][]byte, api.Errno) {
	s, e := look(d, root)
	if e != api.OK {
		return nil, nil, e
	}
	return s.keys, s.data, api.OK
}

// step is a knot on a way down, and which of its cells the way goes on below (of a leaf 0).
type step struct {
	knot
	i int
}

// down tells the way from the root to the leaf in which the key stands, or would.
func down(d *draft.Draft, root int, key int64) ([]step, api.Errno) {
	var path []step
	at := root
next:
	x, e := load(d, at)
	if e != api.OK {
		return nil, e
	}
	if x.kind == kindLeaf {
		return append(path, step{knot: x}), api.OK
	}
	i := x.way(key)
	path = append(path, step{x, i})
	if len(path) == deepest {
		return nil, api.ErrForm
	}
	at = x.child(i)
	goto next
}

// boundOf tells the least key that may lie behind the path's leaf, and whether there is anything behind it. It is above the
// key that the path leads to.
func boundOf(path []step) (int64, bool) {
	for _, x := range slices.Backward(path[:len(path)-1]) {
		if x.i+1 < len(x.cells) {
			return x.key(x.i + 1), true
		}
	}
	return 0, false
}

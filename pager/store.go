package pager

import (
	"maps"
	"slices"

	"cadastre/api"
	"cadastre/disk"
)

// The files. Committed pages are those of base, and over them those of the log's commits, one after the other. The journal
// is there just while a commit is in flight: a commit is done by the stroke that takes it away, since of all strokes Delete
// alone is safe once it is seen. So a journal that is found belongs to a commit that failed, which is undone by it.
const (
	baseName    = "base"
	journalName = "base-journal"
	logName     = "base-log"
)

// A log that would get longer is folded first: whoever begins a transaction reads all of it.
const longLog = 1 << 16

// store is the files of a disk. What the disk refuses with is kept, and nothing more is done from then on.
type store struct {
	d *disk.Disk
	e api.Errno
}

// view is what is committed: its pages stay where they are while somebody is in a transaction.
type view struct {
	count  int         // how many pages there are
	end    int         // of the log's commits
	places map[int]int // where in the log a page is, by its number; the others are in base
}

// settle undoes the commit in flight that the disk or the power cut short, if there is one.
func (s *store) settle() {
	if !s.there(journalName) {
		return
	}
	j := decode(s.read(journalName, 0, api.MaxFile))
	switch j.kind {
	case batchBase:
		s.lay(j.pages)
		s.cut(baseName, j.count*api.PageSize)
		s.sync(baseName)
	case batchLog:
		s.cut(logName, j.place)
		s.sync(logName)
	}
	// A journal that is not whole was not safe: nothing else had been touched.
	s.remove(journalName)
}

// look tells what is committed, where no commit is in flight.
func (s *store) look() view {
	v := view{count: min(pagesOf(s.size(baseName)), api.MaxPages), places: map[int]int{}}
	l := s.read(logName, 0, api.MaxFile)
next:
	b := decode(l)
	if b.kind != batchCommit || b.place != v.end {
		return v
	}
	for i, x := range b.pages {
		v.places[x.n] = v.end + leafAt(i)
	}
	v.count = b.count
	v.end += b.size()
	l = l[b.size():]
	goto next
}

// page tells v's page n, noughts where there is none.
func (s *store) page(v view, n int) []byte {
	name, at := baseName, n*api.PageSize
	if place, ok := v.places[n]; ok {
		name, at = logName, place
	}
	p := make([]byte, api.PageSize)
	copy(p, s.read(name, at, api.PageSize))
	return p
}

// pages tells those of v's pages whose numbers are given.
func (s *store) pages(v view, numbers []int) []leaf {
	var l []leaf
	for _, n := range numbers {
		l = append(l, leaf{n, s.page(v, n)})
	}
	return l
}

// replace commits pages in base itself; the journal keeps what they were.
func (s *store) replace(pages []leaf) {
	s.fold()
	v := s.look()
	var old []int
	for _, x := range pages {
		if x.n < v.count {
			old = append(old, x.n)
		}
	}
	s.guard(batch{kind: batchBase, count: v.count, pages: s.pages(v, old)})
	s.lay(pages)
	s.sync(baseName)
	s.remove(journalName)
}

// extend commits pages, count in all then, behind those of the log that ends at end; the journal keeps where that was.
func (s *store) extend(end, count int, pages []leaf) {
	b := batch{kind: batchCommit, count: count, place: end, pages: pages}
	if end+b.size() > longLog {
		s.fold()
		b.place = 0
	}
	s.guard(batch{kind: batchLog, place: b.place})
	s.cut(logName, b.place)
	s.write(logName, b.place, b.encode())
	s.sync(logName)
	s.remove(journalName)
}

// guard writes the journal. Its head comes last, over pages that are safe: so no sum has to find out torn ones.
func (s *store) guard(j batch) {
	l := j.encode()
	if len(l) > headSize {
		s.write(journalName, headSize, l[headSize:])
		s.sync(journalName)
	}
	s.write(journalName, 0, l[:headSize])
	s.sync(journalName)
}

// fold brings the log's pages into base. Until the log is gone it goes over whatever base has in their places.
func (s *store) fold() {
	if !s.there(logName) {
		return
	}
	v := s.look()
	s.lay(s.pages(v, slices.Sorted(maps.Keys(v.places))))
	s.cut(baseName, v.count*api.PageSize)
	s.sync(baseName)
	s.remove(logName)
}

// lay writes pages into base, those that stand side by side by one stroke.
func (s *store) lay(pages []leaf) {
next:
	if len(pages) == 0 {
		return
	}
	var l []byte
	first := pages[0].n
	for len(pages) > 0 && pages[0].n*api.PageSize == first*api.PageSize+len(l) {
		l = append(l, pages[0].page...)
		pages = pages[1:]
	}
	s.write(baseName, first*api.PageSize, l)
	goto next
}

// pagesOf tells how many pages n bytes are, the last one perhaps in part.
func pagesOf(n int) int { return (n + api.PageSize - 1) / api.PageSize }

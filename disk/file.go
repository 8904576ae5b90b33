package disk

import (
	"bytes"

	"cadastre/api"
)

// file is one of a disk's. Its safe bytes and those that are seen share no memory.
type file struct {
	name string
	safe []byte
	seen []byte
}

// sector is one of a file's, with noughts where the file has no bytes.
type sector [api.Sector]byte

func (f *file) write(at int, b []byte) {
	f.seen = sized(f.seen, max(len(f.seen), at+len(b)))
	copy(f.seen[at:], b)
}

func (f *file) sync() {
	f.safe = append(f.safe[:0], f.seen...)
}

func (f *file) read(at, n int) []byte {
	from := min(at, len(f.seen))
	return bytes.Clone(f.seen[from:min(from+n, len(f.seen))])
}

// crash tells the file's bytes as they may be found, as the next picks say.
func (f *file) crash(p *picker) []byte {
	n := len(f.safe)
	if len(f.seen) != n && odd(p.next()) {
		n = len(f.seen)
	}
	end := max(len(f.safe), len(f.seen))
	found := make([]byte, 0, end+api.Sector)
	at := 0
next:
	if at >= end {
		return sized(found, n)
	}
	safe, seen := sectorAt(f.safe, at), sectorAt(f.seen, at)
	if safe != seen {
		// What is kept of the new bytes is written over the old ones.
		k := kept(p.next())
		copy(safe[:k], seen[:k])
	}
	found = append(found, safe[:]...)
	at += api.Sector
	goto next
}

func sectorAt(b []byte, at int) sector {
	s := sector{}
	copy(s[:], b[min(at, len(b)):])
	return s
}

// sized tells b with n bytes, cut or with noughts behind; it may be in b's own memory.
func sized(b []byte, n int) []byte {
	if n <= len(b) {
		return b[:n]
	}
	// The noughts are appended: room that b was cut from holds old bytes.
	return append(b, make([]byte, n-len(b))...)
}

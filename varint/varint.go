// Package varint: numbers of 1 to 9 bytes: see ../../shared/doc/01-varint.md.
package varint

import "cadastre/api"

const (
	groupBits  = 7
	more       = 0x80 // a byte's highest bit
	longFrom   = 1 << 56
	longGroups = 8
	longSize   = longGroups + 1
)

// Put tells n's bytes.
func Put(n uint64) []byte {
	if n >= longFrom {
		return append(groups(n>>8, longGroups), byte(n))
	}
	b := groups(n, sizeOf(n))
	b[len(b)-1] &^= more
	return b
}

// Get tells the number with whose bytes b begins, and how many they are.
func Get(b []byte) (n uint64, size int, e api.Errno) {
	n, size = read(b)
	// Other bytes may spell a number too, but only its own ones are as few; no number has 0 of them.
	if size != sizeOf(n) {
		return 0, 0, api.ErrForm
	}
	return n, size, api.OK
}

// sizeOf tells how many bytes Put(n) are.
func sizeOf(n uint64) int {
	if n >= longFrom {
		return longSize
	}
	size := 1
next:
	n >>= groupBits
	if n != 0 {
		size++
		goto next
	}
	return size
}

// groups tells n's lowest groups, the highest first, all marked as followed.
func groups(n uint64, count int) []byte {
	b := make([]byte, count)
	i := count
next:
	if i > 0 {
		i--
		b[i] = byte(n) | more
		n >>= groupBits
		goto next
	}
	return b
}

// read takes groups up to the first one that none follows, few or not; size 0: b ends ahead of it.
func read(b []byte) (n uint64, size int) {
next:
	if size == len(b) {
		return 0, 0
	}
	last := b[size]
	size++
	// The ninth byte is no group: all of its bits count.
	if size == longSize {
		return n<<8 | uint64(last), size
	}
	n = n<<groupBits | uint64(last&^more)
	if last&more != 0 {
		goto next
	}
	return n, size
}

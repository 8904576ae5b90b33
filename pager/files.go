package pager

import "cadastre/api"

// keep keeps what the disk refused with.
func (s *store) keep(e api.Errno) {
	if s.e == api.OK {
		s.e = e
	}
}

// there asks whether the disk has the file.
func (s *store) there(name string) bool {
	_, e := s.d.Size(name)
	return s.found(e)
}

// size tells how many bytes the file has, 0 if there is none.
func (s *store) size(name string) int {
	n, e := s.d.Size(name)
	s.found(e)
	return n
}

// read tells n of the file's bytes, or as many as there are, none if there is no file.
func (s *store) read(name string, at, n int) []byte {
	b, e := s.d.Read(name, at, n)
	s.found(e)
	return b
}

// found asks whether a file is there; that there is none is no refusal.
func (s *store) found(e api.Errno) bool {
	switch e {
	case api.OK:
		return s.e == api.OK
	case api.ErrName:
		return false
	}
	s.keep(e)
	return false
}

func (s *store) write(name string, at int, b []byte) {
	if s.e == api.OK {
		s.keep(s.d.Write(name, at, b))
	}
}

// cut takes away what the file has behind n bytes.
func (s *store) cut(name string, n int) {
	if s.size(name) > n && s.e == api.OK {
		s.keep(s.d.Truncate(name, n))
	}
}

// sync makes the file safe, if it is there.
func (s *store) sync(name string) {
	if s.there(name) {
		s.keep(s.d.Sync(name))
	}
}

func (s *store) remove(name string) {
	if s.e == api.OK {
		s.keep(s.d.Delete(name))
	}
}

package bits

import "colonnade/api"

// And: P1.5.
func (s *Set) And(o *Set) (*Set, api.Errno) {
	return s.with(o, func(x, y uint64) uint64 { return x & y })
}

// Or: P1.5.
func (s *Set) Or(o *Set) (*Set, api.Errno) {
	return s.with(o, func(x, y uint64) uint64 { return x | y })
}

// Xor: P1.5.
func (s *Set) Xor(o *Set) (*Set, api.Errno) {
	return s.with(o, func(x, y uint64) uint64 { return x ^ y })
}

// Less: P1.5.
func (s *Set) Less(o *Set) (*Set, api.Errno) {
	return s.with(o, func(x, y uint64) uint64 { return x &^ y })
}

// Not: P1.5.
func (s *Set) Not() *Set {
	if s == nil {
		return nil
	}
	not := empty(s.length)
	for i, w := range s.words {
		not.words[i] = ^w
	}
	not.clearTail()
	return not
}

// with puts s and o together word by word. No tail needs clearing behind it: each put makes 0 of two 0s.
func (s *Set) with(o *Set, put func(x, y uint64) uint64) (*Set, api.Errno) {
	if s == nil || o == nil {
		return nil, api.ErrNil
	}
	if s.length != o.length {
		return nil, api.ErrSize
	}
	r := empty(s.length)
	for i, w := range s.words {
		r.words[i] = put(w, o.words[i])
	}
	return r, api.OK
}

// clearTail makes the bits 0 that are no number's, where whole words were turned or cut.
func (s *Set) clearTail() {
	if s.length > 0 {
		s.words[len(s.words)-1] &= lastMask(s.length)
	}
}

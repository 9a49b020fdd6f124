// Package bits is layer 1: sets of numbers below a length, a bit a number, sixty-four in a word: see shared/doc/01-bits.md.
package bits

import "colonnade/api"

// wordBits is how many numbers a word has room for.
const wordBits = 64

// Set is which of the numbers from 0 to its length less 1 are in it. Its zero value has the length 0.
//
// There are always just as many words as the length asks for, and the bits of the last one that are no number's are 0: counting, searching and joining go by whole words and lean on both.
type Set struct {
	length int
	words  []uint64
}

// New: P1.1.
func New(n int) *Set {
	if !mayBeLength(n) {
		return nil
	}
	return empty(n)
}

// Of: P1.1.
func Of(b ...bool) *Set {
	s := New(len(b))
	if s == nil {
		return nil
	}
	for i, on := range b {
		if on {
			s.words[i/wordBits] |= bitOf(i)
		}
	}
	return s
}

// Load: P1.2.
func Load(n int, words []uint64) (*Set, api.Errno) {
	if !mayBeLength(n) {
		return nil, api.ErrArg
	}
	if len(words) != wordsFor(n) {
		return nil, api.ErrSize
	}
	if n > 0 && words[len(words)-1]&^lastMask(n) != 0 {
		return nil, api.ErrTail
	}
	s := empty(n)
	copy(s.words, words)
	return s, api.OK
}

// Len: P1.3.
func (s *Set) Len() int {
	if s == nil {
		return 0
	}
	return s.length
}

// Get: P1.3.
func (s *Set) Get(i int) bool {
	if s == nil || i < 0 || i >= s.length {
		return false
	}
	return s.words[i/wordBits]&bitOf(i) != 0
}

// Put: P1.4.
func (s *Set) Put(i int, on bool) api.Errno {
	if s == nil {
		return api.ErrNil
	}
	if i < 0 || i >= s.length {
		return api.ErrArg
	}
	if on {
		s.words[i/wordBits] |= bitOf(i)
	} else {
		s.words[i/wordBits] &^= bitOf(i)
	}
	return api.OK
}

// Words: P1.2.
func (s *Set) Words() []uint64 {
	if s == nil {
		return nil
	}
	words := make([]uint64, len(s.words))
	copy(words, s.words)
	return words
}

// Clone: P1.3.
func (s *Set) Clone() *Set {
	if s == nil {
		return nil
	}
	return &Set{length: s.length, words: s.Words()}
}

func mayBeLength(n int) bool { return n >= 0 && n <= api.MaxRows }

// empty is New for a length that is known to be one.
func empty(n int) *Set {
	return &Set{length: n, words: make([]uint64, wordsFor(n))}
}

func wordsFor(n int) int { return (n + wordBits - 1) / wordBits }

func bitOf(i int) uint64 { return 1 << uint(i%wordBits) }

// lastMask has the bits of the last word that are numbers of a set of length n. Of a length that fills its last word it is all ones: a shift by a whole word leaves 0, and 0 less 1 wraps round.
func lastMask(n int) uint64 {
	used := n - (wordsFor(n)-1)*wordBits
	return 1<<uint(used) - 1
}

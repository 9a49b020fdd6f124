package bits

import (
	"iter"
	mathbits "math/bits"
)

// Count: P1.6.
func (s *Set) Count() int {
	if s == nil {
		return 0
	}
	return countOf(s.words)
}

// Rank: P1.6.
func (s *Set) Rank(i int) int {
	if s == nil || i <= 0 {
		return 0
	}
	if i >= s.length {
		return s.Count()
	}
	below := s.words[i/wordBits] & (bitOf(i) - 1)
	return countOf(s.words[:i/wordBits]) + mathbits.OnesCount64(below)
}

// Select: P1.6.
func (s *Set) Select(k int) (int, bool) {
	if s == nil || k < 0 {
		return 0, false
	}
	for i, w := range s.words {
		held := mathbits.OnesCount64(w)
		if k < held {
			return i*wordBits + placeOf(w, k), true
		}
		k -= held
	}
	return 0, false
}

// All: P1.7.
func (s *Set) All() iter.Seq[int] {
	return func(yield func(int) bool) {
		// A copy, made anew each time a walk begins, so that a Put meanwhile is not seen.
		for i, w := range s.Words() {
			for w != 0 {
				if !yield(i*wordBits + mathbits.TrailingZeros64(w)) {
					return
				}
				w = withoutLowest(w)
			}
		}
	}
}

func countOf(words []uint64) int {
	n := 0
	for _, w := range words {
		n += mathbits.OnesCount64(w)
	}
	return n
}

// placeOf is where the 1 of w stands below which there are k others; w has more than k of them.
func placeOf(w uint64, k int) int {
	for range k {
		w = withoutLowest(w)
	}
	return mathbits.TrailingZeros64(w)
}

func withoutLowest(w uint64) uint64 { return w & (w - 1) }

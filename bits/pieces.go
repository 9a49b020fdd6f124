package bits

import "colonnade/api"

// Slice: P1.8.
func (s *Set) Slice(from, to int) *Set {
	if s == nil {
		return nil
	}
	from = min(max(from, 0), s.length)
	to = max(min(to, s.length), from)
	piece := empty(to - from)
	for i := range piece.words {
		piece.words[i] = s.wordFrom(from + i*wordBits)
	}
	piece.clearTail()
	return piece
}

// Join: P1.8.
func Join(l ...*Set) (*Set, api.Errno) {
	for _, s := range l {
		if s == nil {
			return nil, api.ErrNil
		}
	}
	total := 0
	for _, s := range l {
		total += s.length
		if total > api.MaxRows {
			return nil, api.ErrLarge
		}
	}
	joined := empty(total)
	at := 0
	for _, s := range l {
		joined.lay(at, s)
		at += s.length
	}
	return joined, api.OK
}

// wordFrom is the 64 bits from the number i on, which is below the length; behind the last word there are 0s.
func (s *Set) wordFrom(i int) uint64 {
	at, shift := i/wordBits, uint(i%wordBits)
	w := s.words[at] >> shift
	if at+1 < len(s.words) {
		w |= s.words[at+1] << (wordBits - shift)
	}
	return w
}

// lay puts into s what o holds, by at higher; s holds nothing from at on, and has room for o there.
func (s *Set) lay(at int, o *Set) {
	first, shift := at/wordBits, uint(at%wordBits)
	for i, w := range o.words {
		s.words[first+i] |= w << shift
		// Where o ends within this word of s there is no further one, and nothing is left over for it.
		if over := w >> (wordBits - shift); over != 0 {
			s.words[first+i+1] |= over
		}
	}
}

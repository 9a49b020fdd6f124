package lanes

import (
	"colonnade/api"
	"colonnade/bits"
	"colonnade/pack"
)

// packed is packed numbers that have no fault.
type packed struct {
	b        []byte
	width, n int
}

// packedOf answers the fault of packed numbers, or the numbers.
func packedOf(b []byte, width, n int) (packed, api.Errno) {
	// The width comes first here, and last with Bytes.
	if width < 0 || width > wordBits {
		return packed{}, api.ErrWidth
	}
	size, e := pack.Bytes(n, width)
	if e != api.OK {
		return packed{}, e
	}
	if len(b) < size {
		return packed{}, api.ErrCut
	}
	if len(b) > size || pack.Word(b, n*width) != 0 {
		return packed{}, api.ErrLeft
	}
	return packed{b, width, n}, api.OK
}

// whole is all of the numbers, or none.
func (p packed) whole(all bool) *bits.Set {
	none := bits.New(p.n)
	if all {
		return none.Not()
	}
	return none
}

// chosen is the numbers that ask says: of a word it has the top bits of the lanes that are meant. The width is that of c.
func (p packed) chosen(c cut, ask func(x uint64) uint64) (*bits.Set, api.Errno) {
	words := make([]uint64, (p.n+wordBits-1)/wordBits)
	for at := 0; at < p.n; at += c.lanes {
		marks := c.marks(ask(pack.Word(p.b, at*c.width)))
		// Behind the last number a word has lanes that are no numbers.
		lay(words, at, marks&lowest(p.n-at))
	}
	return bits.Load(p.n, words)
}

// each does something with each of the numbers, one lane behind the other. The width is that of c.
func (p packed) each(c cut, do func(v uint64)) {
	for at := 0; at < p.n; at += c.lanes {
		x := pack.Word(p.b, at*c.width)
		for i := range min(c.lanes, p.n-at) {
			do(c.lane(x, i))
		}
	}
}

// lay puts marks into words from the bit number at on, where they are still 0.
func lay(words []uint64, at int, marks uint64) {
	first, shift := at/wordBits, at%wordBits
	words[first] |= marks << shift
	// Where the marks end within the last word, nothing is left over for another one.
	if over := marks >> (wordBits - shift); over != 0 {
		words[first+1] |= over
	}
}

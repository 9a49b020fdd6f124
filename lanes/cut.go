package lanes

import "colonnade/api"

// cut is how a word is cut into lanes. Its masks are made once, and then all words of some packed numbers are asked by them.
type cut struct {
	width int
	lanes int
	tops  uint64 // the top bit of each lane
	rest  uint64 // the other bits of each lane
}

// cutOf is the cut into lanes of a width from 1 to 64.
func cutOf(width int) cut {
	top := uint64(1) << (width - 1)
	return cut{width: width, lanes: wordBits / width, tops: spread(top, width), rest: spread(top-1, width)}
}

// equal has the top bit of each lane in which x and y are as great.
func (c cut) equal(x, y uint64) uint64 {
	unlike := x ^ y
	// Added to all ones below the top bit, whatever is 1 there carries to the top bit, and no further.
	carried := unlike&c.rest + c.rest
	return c.tops &^ (unlike | carried)
}

// below has the top bit of each lane in which x is below y.
func (c cut) below(x, y uint64) uint64 {
	// Each lane of x gets its top bit, so that none borrows from the next one; the bit is left just where the rest of x is not below that of y.
	left := (x | c.tops) - y&c.rest
	byTop := y &^ x
	byRest := ^(x ^ y) &^ left
	return c.tops & (byTop | byRest)
}

// stands has the top bit of each lane in which x stands so to y, by an op from Eq to Ge.
func (c cut) stands(op int, x, y uint64) uint64 {
	switch op {
	case api.Eq:
		return c.equal(x, y)
	case api.Ne:
		return c.tops &^ c.equal(x, y)
	case api.Lt:
		return c.below(x, y)
	case api.Le:
		return c.tops &^ c.below(y, x)
	case api.Gt:
		return c.below(y, x)
	}
	return c.tops &^ c.below(x, y)
}

// marks has the top bits of the lanes side by side.
func (c cut) marks(m uint64) uint64 {
	marks := uint64(0)
	for i := range c.lanes {
		marks |= c.lane(m, i) >> (c.width - 1) << i
	}
	return marks
}

// lane is the number in the lane i of x.
func (c cut) lane(x uint64, i int) uint64 { return x >> (i * c.width) & lowest(c.width) }

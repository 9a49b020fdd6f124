package lanes

import (
	"slices"

	"colonnade/api"
	"colonnade/bits"
)

// few is up to how many numbers In holds against a whole word, one behind the other. Of more, a search for each of the word's lanes is the shorter way: such lanes are wide, so there are few of them.
const few = 32

// Test: P3.4.
func Test(b []byte, width, n, op int, c uint64) (*bits.Set, api.Errno) {
	p, e := packedOf(b, width, n)
	if e != api.OK {
		return nil, e
	}
	if op < api.Eq || op > api.Ge {
		return nil, api.ErrArg
	}
	// What no lane holds is above all numbers, so that all stand to it as 0 does.
	if width == 0 || !holds(width, c) {
		return p.whole(cutOf(wordBits).stands(op, 0, c) != 0), api.OK
	}
	k, against := cutOf(width), spread(c, width)
	return p.chosen(k, func(x uint64) uint64 { return k.stands(op, x, against) })
}

// Between: P3.5.
func Between(b []byte, width, n int, lo, hi uint64) (*bits.Set, api.Errno) {
	p, e := packedOf(b, width, n)
	if e != api.OK {
		return nil, e
	}
	if lo > hi || !holds(width, lo) {
		return p.whole(false), api.OK
	}
	if width == 0 {
		return p.whole(true), api.OK
	}
	k, least, greatest := cutOf(width), spread(lo, width), spread(min(hi, lowest(width)), width)
	return p.chosen(k, func(x uint64) uint64 {
		return k.tops &^ (k.below(x, least) | k.below(greatest, x))
	})
}

// In: P3.5.
func In(b []byte, width, n int, l ...uint64) (*bits.Set, api.Errno) {
	p, e := packedOf(b, width, n)
	if e != api.OK {
		return nil, e
	}
	wanted := wantedOf(l, width)
	if width == 0 {
		return p.whole(len(wanted) > 0), api.OK
	}
	k := cutOf(width)
	if len(wanted) > few {
		return p.chosen(k, func(x uint64) uint64 { return k.found(x, wanted) })
	}
	for i, v := range wanted {
		wanted[i] = spread(v, width)
	}
	return p.chosen(k, func(x uint64) uint64 { return k.equalToAny(x, wanted) })
}

// wantedOf is those of l that a lane of that width holds, rising.
func wantedOf(l []uint64, width int) []uint64 {
	var wanted []uint64
	for _, v := range l {
		if holds(width, v) {
			wanted = append(wanted, v)
		}
	}
	slices.Sort(wanted)
	return slices.Compact(wanted)
}

// equalToAny has the top bit of each lane in which x is as great as in one of the words.
func (c cut) equalToAny(x uint64, words []uint64) uint64 {
	equal := uint64(0)
	for _, y := range words {
		equal |= c.equal(x, y)
	}
	return equal
}

// found has the top bit of each lane of x whose number is one of those wanted, which are rising.
func (c cut) found(x uint64, wanted []uint64) uint64 {
	found := uint64(0)
	for i := range c.lanes {
		if _, is := slices.BinarySearch(wanted, c.lane(x, i)); is {
			found |= 1 << (i*c.width + c.width - 1)
		}
	}
	return found
}

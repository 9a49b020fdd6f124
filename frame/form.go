package frame

import (
	"math"
	"slices"

	"colonnade/api"
	"colonnade/pack"
)

// baseSize is how many bytes a frame's base has.
const baseSize = 8

// PutFrame: P11.3.
func PutFrame(l []int64, width int) ([]byte, api.Errno) {
	base, _ := ends(l)
	lanes, e := put(base, l, width, FrameWidth(l))
	if e != api.OK {
		return nil, e
	}
	return slices.Concat(baseBytes(base), lanes), api.OK
}

// OpenFrame: P11.4.
func OpenFrame(b []byte, n, width int) (int64, []byte, api.Errno) {
	if _, e := pack.Bytes(n, width); e != api.OK {
		return 0, nil, e
	}
	if len(b) < baseSize {
		return 0, nil, api.ErrCut
	}
	base, lanes := int64(pack.Word(b, 0)), b[baseSize:]
	if e := fault(lanes, n, width); e != api.OK {
		return 0, nil, e
	}
	least, greatest := codeEnds(lanes, n, width)
	// The base is the least of the numbers, so that its own code, 0, is among the lanes.
	if n == 0 && base != 0 || least != 0 || greatest > mostOver(base) {
		return 0, nil, api.ErrForm
	}
	return base, copyFrom(b, baseSize), api.OK
}

// PutPacked: P11.3.
func PutPacked(l []int64, width int) ([]byte, api.Errno) {
	least, is := PackedWidth(l)
	if !is {
		// Numbers below 0 fit no width. They are refused behind what Bytes refuses, as a width too small is.
		least = math.MaxInt
	}
	return put(0, l, width, least)
}

// OpenPacked: P11.5.
func OpenPacked(b []byte, n, width int) ([]byte, api.Errno) {
	if e := fault(b, n, width); e != api.OK {
		return nil, e
	}
	if _, greatest := codeEnds(b, n, width); greatest > mostOver(0) {
		return nil, api.ErrForm
	}
	return copyFrom(b, 0), api.OK
}

// Values: P11.6.
func Values(base int64, lanes []byte, n, width int) ([]int64, api.Errno) {
	codes, e := pack.Unpack[uint64](lanes, width, n)
	if e != api.OK {
		return nil, e
	}
	l, most := make([]int64, len(codes)), mostOver(base)
	for i, code := range codes {
		if code > most {
			return nil, api.ErrForm
		}
		l[i] = Lift(base, code)
	}
	return l, api.OK
}

// baseBytes is a base as a frame has it: a lane of all its bits, which no number is too great for.
func baseBytes(base int64) []byte {
	b, _ := pack.Pack([]uint64{uint64(base)}, 8*baseSize)
	return b
}

// put is the lanes of the numbers' codes over a base that is above none of them; least is the least width that they fit.
func put(base int64, l []int64, width, least int) ([]byte, api.Errno) {
	if _, e := pack.Bytes(len(l), width); e != api.OK {
		return nil, e
	}
	if width < least {
		return nil, api.ErrUnfit
	}
	codes := make([]uint64, len(l))
	for i, v := range l {
		codes[i], _ = Drop(base, v)
	}
	return pack.Pack(codes, width)
}

// fault is why bytes are not n lanes of a width and nothing else, OK if they are. It asks without taking the lanes out: there may be many of few bytes.
func fault(b []byte, n, width int) api.Errno {
	size, e := pack.Bytes(n, width)
	switch {
	case e != api.OK:
		return e
	case len(b) < size:
		return api.ErrCut
	case len(b) > size || pack.Word(b, n*width) != 0:
		return api.ErrLeft
	}
	return api.OK
}

// codeEnds are the least and the greatest code in n lanes, both 0 of none.
func codeEnds(lanes []byte, n, width int) (least, greatest uint64) {
	least, _ = pack.At(lanes, width, 0)
	for i := range n {
		code, _ := pack.At(lanes, width, i)
		least, greatest = min(least, code), max(greatest, code)
	}
	return least, greatest
}

// copyFrom is a copy of the bytes of b from one on, cut with its room: what is grown behind it is moved away from it.
func copyFrom(b []byte, from int) []byte {
	c := make([]byte, len(b))
	copy(c, b)
	return c[from:len(c):len(c)]
}

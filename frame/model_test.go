package frame_test

import (
	"fmt"
	"math"
	"math/big"
	"math/rand/v2"
	"slices"

	"colonnade/api"
)

const (
	least    = math.MinInt64
	greatest = math.MaxInt64
)

// two is 2^n.
func two(n int) *big.Int { return new(big.Int).Lsh(big.NewInt(1), uint(n)) }

// sum is base + code, however great.
func sum(base int64, code uint64) *big.Int {
	return new(big.Int).Add(big.NewInt(base), new(big.Int).SetUint64(code))
}

// tooGreat says whether base + code is above 2^63 - 1.
func tooGreat(base int64, code uint64) bool { return sum(base, code).Cmp(two(63)) >= 0 }

// plainCode is v less base, however great.
func plainCode(base, v int64) *big.Int {
	return new(big.Int).Sub(big.NewInt(v), big.NewInt(base))
}

// fits says whether v is below 2^width.
func fits(v *big.Int, width int) bool { return v.Cmp(two(width)) < 0 }

// plainLeast is the least of numbers, 0 of none.
func plainLeast(l []int64) int64 {
	if len(l) == 0 {
		return 0
	}
	return slices.Sorted(slices.Values(l))[0]
}

// plainFrameWidth tries the widths one behind the other, with all codes.
func plainFrameWidth(l []int64) int {
	base := plainLeast(l)
	for w := 0; ; w++ {
		if !slices.ContainsFunc(l, func(v int64) bool { return !fits(plainCode(base, v), w) }) {
			return w
		}
	}
}

// plainPackedWidth tries the widths one behind the other, with all numbers.
func plainPackedWidth(l []int64) (int, bool) {
	if slices.ContainsFunc(l, func(v int64) bool { return v < 0 }) {
		return 0, false
	}
	for w := 0; ; w++ {
		if !slices.ContainsFunc(l, func(v int64) bool { return !fits(big.NewInt(v), w) }) {
			return w, true
		}
	}
}

// eight is a base's bytes, the lowest first, by dividing.
func eight(base int64) []byte {
	rest := big.NewInt(base)
	if base < 0 {
		rest.Add(rest, two(64))
	}
	var b []byte
	for range 8 {
		low := new(big.Int)
		rest.DivMod(rest, big.NewInt(256), low)
		b = append(b, byte(low.Int64()))
	}
	return b
}

// plainLanes is lanes of a width, bit by bit.
func plainLanes(codes []uint64, width int) []byte {
	b := make([]byte, (len(codes)*width+7)/8)
	for i, code := range codes {
		for j := range width {
			bit := i*width + j
			b[bit/8] += byte(code>>j&1) << (bit % 8)
		}
	}
	return b
}

// plainLane is the number in a lane, bit by bit.
func plainLane(b []byte, width, i int) uint64 {
	v := uint64(0)
	for j := range width {
		bit := i*width + j
		v += uint64(b[bit/8]>>(bit%8)&1) << j
	}
	return v
}

// codesOver are the codes of numbers over a base.
func codesOver(base int64, l []int64) []uint64 {
	codes := make([]uint64, len(l))
	for i, v := range l {
		codes[i] = plainCode(base, v).Uint64()
	}
	return codes
}

// plainBytes is how many bytes n lanes of a width have, or layer 2's error.
func plainBytes(n, width int) (int, api.Errno) {
	switch {
	case n < 0:
		return 0, api.ErrArg
	case n > 16777216:
		return 0, api.ErrLarge
	case width < 0 || width > 64:
		return 0, api.ErrWidth
	}
	return (n*width + 7) / 8, api.OK
}

// plainPutFrame is P11.3, step by step.
func plainPutFrame(l []int64, width int) ([]byte, api.Errno) {
	if _, e := plainBytes(len(l), width); e != api.OK {
		return nil, e
	}
	if width < plainFrameWidth(l) {
		return nil, api.ErrUnfit
	}
	base := plainLeast(l)
	return append(eight(base), plainLanes(codesOver(base, l), width)...), api.OK
}

// plainPutPacked is P11.3, step by step.
func plainPutPacked(l []int64, width int) ([]byte, api.Errno) {
	if _, e := plainBytes(len(l), width); e != api.OK {
		return nil, e
	}
	if w, is := plainPackedWidth(l); !is || width < w {
		return nil, api.ErrUnfit
	}
	return plainLanes(codesOver(0, l), width), api.OK
}

// plainSize says whether there are fewer bytes or more than n lanes have, or a bit behind the last one is 1.
func plainSize(b []byte, n, width, size int) api.Errno {
	if len(b) < size {
		return api.ErrCut
	}
	if len(b) > size {
		return api.ErrLeft
	}
	for bit := n * width; bit < 8*size; bit++ {
		if b[bit/8]>>(bit%8)&1 == 1 {
			return api.ErrLeft
		}
	}
	return api.OK
}

// plainBase is the number whose bytes these eight are.
func plainBase(b []byte) int64 {
	v := new(big.Int)
	for i := range 8 {
		v.Add(v, new(big.Int).Mul(big.NewInt(int64(b[i])), two(8*i)))
	}
	if v.Cmp(two(63)) >= 0 {
		v.Sub(v, two(64))
	}
	return v.Int64()
}

// plainOpenFrame is P11.4, step by step.
func plainOpenFrame(b []byte, n, width int) (int64, []byte, api.Errno) {
	size, e := plainBytes(n, width)
	if e != api.OK {
		return 0, nil, e
	}
	if len(b) < 8 {
		return 0, nil, api.ErrCut
	}
	if e := plainSize(b[8:], n, width, size); e != api.OK {
		return 0, nil, e
	}
	base := plainBase(b)
	if n == 0 && base != 0 {
		return 0, nil, api.ErrForm
	}
	some := n == 0 || width == 0
	for i := range n {
		if width == 0 {
			break
		}
		code := plainLane(b[8:], width, i)
		if tooGreat(base, code) {
			return 0, nil, api.ErrForm
		}
		some = some || code == 0
	}
	if !some {
		return 0, nil, api.ErrForm
	}
	return base, slices.Clone(b[8:]), api.OK
}

// plainOpenPacked is P11.5, step by step.
func plainOpenPacked(b []byte, n, width int) ([]byte, api.Errno) {
	size, e := plainBytes(n, width)
	if e != api.OK {
		return nil, e
	}
	if e := plainSize(b, n, width, size); e != api.OK {
		return nil, e
	}
	for i := range n {
		if width == 64 && plainLane(b, width, i)>>63 == 1 {
			return nil, api.ErrForm
		}
	}
	return slices.Clone(b), api.OK
}

// plainValues is P11.6, step by step.
func plainValues(base int64, lanes []byte, n, width int) ([]int64, api.Errno) {
	if width < 0 || width > 64 {
		return nil, api.ErrWidth
	}
	size, e := plainBytes(n, width)
	if e != api.OK {
		return nil, e
	}
	if e := plainSize(lanes, n, width, size); e != api.OK {
		return nil, e
	}
	l := make([]int64, n)
	for i := range l {
		l[i] = base
		if width == 0 {
			continue
		}
		code := plainLane(lanes, width, i)
		if tooGreat(base, code) {
			return nil, api.ErrForm
		}
		l[i] = sum(base, code).Int64()
	}
	return l, api.OK
}

// byChance is a source of numbers, the same in each run.
func byChance(seed uint64) *rand.Rand { return rand.New(rand.NewPCG(11, seed)) }

// someInts are n numbers by chance, near to one another or far, on either side of 0.
func someInts(r *rand.Rand, n int) []int64 {
	base, near := int64(r.Uint64())>>r.IntN(64), r.IntN(64)
	l := make([]int64, n)
	for i := range l {
		l[i] = base + int64(r.Uint64())>>near
	}
	return l
}

// notBelow0 are n numbers by chance that are not below 0.
func notBelow0(r *rand.Rand, n int) []int64 {
	near := 1 + r.IntN(63)
	l := make([]int64, n)
	for i := range l {
		l[i] = int64(r.Uint64() >> near)
	}
	return l
}

// edgeInts are numbers at the ends of int64 and around 0.
func edgeInts() []int64 {
	return []int64{least, least + 1, least + 2, -1 << 62, -1<<32 - 1, -1 << 31, -256, -2, -1, 0, 1, 2, 255, 256, 1 << 31, 1 << 32, 1<<62 - 1, 1 << 62, greatest - 2, greatest - 1, greatest}
}

// edgeCodes are numbers at the ends of uint64, and at those of int64 within.
func edgeCodes() []uint64 {
	return []uint64{0, 1, 2, 255, 256, 1 << 31, 1 << 32, 1<<62 - 1, 1 << 62, 1<<63 - 2, 1<<63 - 1, 1 << 63, 1<<63 + 1, 1<<63 + 2, 1<<64 - 3, 1<<64 - 2, 1<<64 - 1}
}

// edgeLists are lists of none, of one and of a few numbers at the ends of int64.
func edgeLists() [][]int64 {
	all := [][]int64{nil, {}, {7, 7, 7}, {-7, -7}, {least, least}, {greatest, greatest, greatest}, {0, 0, 0, 0, 0}}
	for _, v := range edgeInts() {
		all = append(all, []int64{v})
		for _, w := range edgeInts() {
			all = append(all, []int64{v, w}, []int64{v, 0, w, w})
		}
	}
	return all
}

// edgeCounts are numbers of lanes at the ends of what may be, and of int, but for the great ones that may be.
func edgeCounts() []int {
	return []int{math.MinInt, math.MinInt + 1, -16777216, -2, -1, 0, 1, 2, 3, 4, 8, 9, 16777217, 1<<31 - 1, 1 << 31, 1 << 32, 1<<32 + 3, 1 << 61, 1 << 62, math.MaxInt - 1, math.MaxInt}
}

// edgeWidths are every width, and what is none.
func edgeWidths() []int {
	all := []int{math.MinInt, math.MinInt + 1, -64, -2, 66, 128, 1 << 32, 1<<32 + 1, math.MaxInt - 1, math.MaxInt}
	for w := -1; w <= 65; w++ {
		all = append(all, w)
	}
	return all
}

// brief is a thing as text, cut where it is long.
func brief(v any) string {
	s := fmt.Sprintf("%v", v)
	if len(s) > 300 {
		return s[:300] + ".."
	}
	return s
}

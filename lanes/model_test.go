package lanes_test

import (
	"math"
	"math/rand/v2"
	"slices"
	"testing"

	"colonnade/api"
	"colonnade/bits"
	"colonnade/lanes"
	"colonnade/pack"
)

// notWidths are numbers that are no width, neither of a word's lanes nor of packed numbers.
var notWidths = []int{-1, -2, -64, 65, 66, 128, math.MinInt, math.MaxInt}

// ops are those by which a number may stand to another one.
var ops = []int{api.Eq, api.Ne, api.Lt, api.Le, api.Gt, api.Ge}

// most is the greatest number of a lane.
func most(width int) uint64 {
	v := uint64(0)
	for range width {
		v = v<<1 + 1
	}
	return v
}

// isOne is whether the bit number i of x is 1.
func isOne(x uint64, i int) bool { return x>>i%2 == 1 }

// laneOf is a plain reading of a lane: bit by bit.
func laneOf(x uint64, width, i int) uint64 {
	v := uint64(0)
	for j := range width {
		if isOne(x, i*width+j) {
			v += 1 << j
		}
	}
	return v
}

// wordOf is the word that has these lanes, and 0 behind them.
func wordOf(width int, lane func(i int) uint64) uint64 {
	x := uint64(0)
	for i := range 64 / width {
		for j := range width {
			if isOne(lane(i), j) {
				x += 1 << (i*width + j)
			}
		}
	}
	return x
}

// behind are the bits of a word that belong to no lane.
func behind(width int) uint64 {
	return ^wordOf(width, func(int) uint64 { return most(width) })
}

// wordsFor are words for lanes of a width: all zeros and all ones, beside one another too, the top bits, all but them, the lowest bits, lanes by chance, and the same with ones behind the last lane.
func wordsFor(width int) []uint64 {
	top := most(width) - most(width-1)
	r := rand.New(rand.NewPCG(3, uint64(width)))
	var l []uint64
	for _, lane := range []func(i int) uint64{
		func(int) uint64 { return 0 },
		func(int) uint64 { return most(width) },
		func(i int) uint64 { return most(width) * uint64(i%2) },
		func(i int) uint64 { return most(width) * uint64((i+1)%2) },
		func(int) uint64 { return top },
		func(int) uint64 { return top - 1 },
		func(i int) uint64 { return top - uint64(i%2) },
		func(int) uint64 { return 1 },
		func(int) uint64 { return most(width) - 1 },
		func(int) uint64 { return r.Uint64() & most(width) },
		func(int) uint64 { return r.Uint64() & most(width) },
		func(int) uint64 { return r.Uint64() & most(width) >> r.IntN(width) },
	} {
		x := wordOf(width, lane)
		l = append(l, x, x|behind(width), x|behind(width)&r.Uint64())
	}
	return l
}

// stands is a plain reading of how v stands to c.
func stands(op int, v, c uint64) bool {
	switch op {
	case api.Eq:
		return v == c
	case api.Ne:
		return v != c
	case api.Lt:
		return v < c
	case api.Le:
		return v <= c
	case api.Gt:
		return v > c
	case api.Ge:
		return v >= c
	}
	panic("no op")
}

// numbers are some numbers, and the least width that holds them or a greater one.
type numbers struct {
	l     []uint64
	width int
}

// bytes are the numbers packed.
func (m numbers) bytes(t *testing.T) []byte {
	t.Helper()
	b, e := pack.Pack(m.l, m.width)
	if e != api.OK {
		t.Fatalf("Pack(%v, %d): %d", m.l, m.width, e)
	}
	return b
}

// which is the set of the numbers of which is says so.
func (m numbers) which(is func(v uint64) bool) *bits.Set {
	var l []bool
	for _, v := range m.l {
		l = append(l, is(v))
	}
	return bits.Of(l...)
}

// counts are such as end with a lane, a word or a byte, or beside one.
func counts(width int) []int {
	per := 64
	if width > 0 {
		per = 64 / width
	}
	l := []int{0, 1, 2, per - 1, per, per + 1, 2*per - 1, 2 * per, 63, 64, 65, 130}
	slices.Sort(l)
	return slices.Compact(l)
}

// everyNumbers does something with lists of numbers of every width: all 0, all the greatest, both by turns, and by chance among few and many.
func everyNumbers(do func(m numbers)) {
	for width := range 65 {
		r := rand.New(rand.NewPCG(33, uint64(width)))
		for _, n := range counts(width) {
			zeros, tops, turns, few, many := make([]uint64, n), make([]uint64, n), make([]uint64, n), make([]uint64, n), make([]uint64, n)
			for i := range n {
				tops[i] = most(width)
				turns[i] = most(width) * uint64(i%2)
				few[i] = r.Uint64N(3) & most(width)
				many[i] = r.Uint64() & most(width)
			}
			for _, l := range [][]uint64{zeros, tops, turns, few, many} {
				do(numbers{l, width})
			}
		}
	}
}

// asked are numbers to hold the packed ones against: some of them, those beside, the ends, and such as no lane holds.
func (m numbers) asked() []uint64 {
	l := []uint64{0, 1, 2, most(m.width) / 2, most(m.width) - 1, most(m.width), most(m.width) + 1, most(m.width) + 2, most(m.width) << 1, 1 << 63, math.MaxUint64}
	if n := len(m.l); n > 0 {
		l = append(l, m.l[n/2]-1, m.l[n/2], m.l[n/2]+1, m.l[n-1])
	}
	slices.Sort(l)
	return slices.Compact(l)
}

// sameSet fails, unless s is there and holds just what want holds, and e is OK.
func sameSet(t *testing.T, s *bits.Set, e api.Errno, want *bits.Set, what ...any) {
	t.Helper()
	if e != api.OK || s == nil || s.Len() != want.Len() || !slices.Equal(s.Words(), want.Words()) {
		t.Fatalf("%v = %v, error %d, not %v", what, s, e, want)
	}
}

// calls are those that take packed numbers; what they answer must be nothing beside an error.
func calls(b []byte, width, n int) map[string]func() (nothing bool, e api.Errno) {
	noSet := func(s *bits.Set, e api.Errno) (bool, api.Errno) { return s == nil, e }
	noNumbers := func(x, y uint64, e api.Errno) (bool, api.Errno) { return x == 0 && y == 0, e }
	return map[string]func() (bool, api.Errno){
		"Test":            func() (bool, api.Errno) { return noSet(lanes.Test(b, width, n, api.Ge, 0)) },
		"Test wrong":      func() (bool, api.Errno) { return noSet(lanes.Test(b, width, n, 7, 0)) },
		"Between":         func() (bool, api.Errno) { return noSet(lanes.Between(b, width, n, 0, math.MaxUint64)) },
		"Between nothing": func() (bool, api.Errno) { return noSet(lanes.Between(b, width, n, 1, 0)) },
		"In":              func() (bool, api.Errno) { return noSet(lanes.In(b, width, n, 0, 1)) },
		"In nothing":      func() (bool, api.Errno) { return noSet(lanes.In(b, width, n)) },
		"Sum":             func() (bool, api.Errno) { return noNumbers(lanes.Sum(b, width, n)) },
		"Ends":            func() (bool, api.Errno) { return noNumbers(lanes.Ends(b, width, n)) },
	}
}

// fails fails, unless each call answers the error want and nothing beside it.
func fails(t *testing.T, b []byte, width, n int, want api.Errno) {
	t.Helper()
	for name, call := range calls(b, width, n) {
		if nothing, e := call(); !nothing || e != want {
			t.Errorf("%s of %d bytes, width %d, %d numbers: error %d (nothing beside it: %t), not %d", name, len(b), width, n, e, nothing, want)
		}
	}
}

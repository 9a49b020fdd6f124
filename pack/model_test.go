package pack_test

import (
	"math"
	"math/rand/v2"
	"slices"
	"testing"

	"colonnade/api"
	"colonnade/pack"
)

// Types of a program's own over each kind.
type (
	tiny  uint8
	small uint16
	mid   uint32
	big   uint64
)

// counts are those around which a byte or a word begins or ends, and some between.
var counts = []int{0, 1, 2, 3, 7, 8, 9, 15, 16, 17, 33, 64, 65, 100}

// notWidths are numbers that are no width.
var notWidths = []int{-1, -2, -64, 65, 66, 128, math.MinInt, math.MaxInt}

// kindBits is how many bits the kind T has.
func kindBits[T pack.Lane]() int {
	n := 0
	for v := T(1); v != 0; v <<= 1 {
		n++
	}
	return n
}

// fits is whether v is below 2^width.
func fits(v uint64, width int) bool { return width == 64 || v < 1<<width }

// lanes is a plain reading of lanes: bit by bit.
func lanes[T pack.Lane](l []T, width int) []byte {
	var bits []bool
	for _, v := range l {
		for j := range width {
			bits = append(bits, uint64(v)>>j&1 == 1)
		}
	}
	return bytesOf(bits)
}

func bytesOf(bits []bool) []byte {
	b := make([]byte, (len(bits)+7)/8)
	for i, on := range bits {
		if on {
			b[i/8] += 1 << (i % 8)
		}
	}
	return b
}

// bitAt is bit number i of b, 0 where b has none.
func bitAt(b []byte, i int) uint64 {
	if i < 0 || i/8 >= len(b) {
		return 0
	}
	return uint64(b[i/8]) >> (i % 8) & 1
}

// lists are lists of n numbers of a kind that fit a width: none but 0, the greatest, both by turns, and some by chance (the same in each run).
func lists[T pack.Lane](n, width int) [][]T {
	most := T(0)
	for range min(width, kindBits[T]()) {
		most = most<<1 | 1
	}
	zeros, tops, turns, chance := make([]T, n), make([]T, n), make([]T, n), make([]T, n)
	r := rand.New(rand.NewPCG(uint64(width), uint64(n)))
	for i := range n {
		tops[i] = most
		turns[i] = most * T(i%2)
		chance[i] = T(r.Uint64()) & most
	}
	return [][]T{zeros, tops, turns, chance}
}

// everyList does something with each of the lists, of every width and of each of the counts.
func everyList[T pack.Lane](do func(width int, l []T)) {
	for width := range 65 {
		for _, n := range counts {
			for _, l := range lists[T](n, width) {
				do(width, l)
			}
		}
	}
}

// packs fails, unless l is packed to want.
func packs[T pack.Lane](t *testing.T, l []T, width int, want []byte) {
	t.Helper()
	if b, e := pack.Pack(l, width); e != api.OK || !slices.Equal(b, want) {
		t.Fatalf("Pack(%v, %d) = %v, %d, not %v", l, width, b, e, want)
	}
}

// packFails fails, unless Pack answers e and nothing else.
func packFails[T pack.Lane](t *testing.T, l []T, width int, e api.Errno) {
	t.Helper()
	if b, f := pack.Pack(l, width); f != e || len(b) != 0 {
		t.Fatalf("Pack(%d numbers, %d) = %d bytes, %d, not error %d alone", len(l), width, len(b), f, e)
	}
}

// unpacks fails, unless b holds want.
func unpacks[T pack.Lane](t *testing.T, b []byte, width int, want []T) {
	t.Helper()
	if l, e := pack.Unpack[T](b, width, len(want)); e != api.OK || !slices.Equal(l, want) {
		t.Fatalf("Unpack(%v, %d, %d) = %v, %d, not %v", b, width, len(want), l, e, want)
	}
}

// unpackFails fails, unless Unpack answers e and nothing else.
func unpackFails[T pack.Lane](t *testing.T, b []byte, width, n int, e api.Errno) {
	t.Helper()
	if l, f := pack.Unpack[T](b, width, n); f != e || len(l) != 0 {
		t.Fatalf("Unpack(%d bytes, %d, %d) = %d numbers, %d, not error %d alone", len(b), width, n, len(l), f, e)
	}
}

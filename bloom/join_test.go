package bloom_test

import (
	"bytes"
	"slices"
	"testing"

	"colonnade/api"
	"colonnade/bloom"
)

func mustJoin(t *testing.T, want []byte, l ...[]byte) {
	t.Helper()
	if got, e := bloom.Join(l...); e != api.OK || !bytes.Equal(got, want) {
		t.Errorf("Join of %d: %s, %d; want %s", len(l), brief(got), e, brief(want))
	}
}

func mustNotJoin(t *testing.T, l ...[]byte) {
	t.Helper()
	if got, e := bloom.Join(l...); e != api.ErrBloom || len(got) != 0 {
		t.Errorf("Join of %s: %s, %d; want ErrBloom", brief(l), brief(got), e)
	}
}

func TestP13_3None(t *testing.T) {
	mustJoin(t, nil)
	mustJoin(t, nil, [][]byte{}...)
	mustJoin(t, nil, [][]byte(nil)...)
	mustJoin(t, nil, make([][]byte, 0, 5)...)
}

func TestP13_3One(t *testing.T) {
	for _, size := range sizes() {
		for _, b := range [][]byte{make([]byte, size), bytes.Repeat([]byte{255}, size), someBytes(byChance(7), size)} {
			mustJoin(t, b, b)
			mustJoin(t, b, b, b)
			mustJoin(t, b, b, make([]byte, size))
		}
	}
}

// plainJoin asks bit by bit whether one of the filters has it.
func plainJoin(size int, l [][]byte) []byte {
	out := make([]byte, size)
	for j := range 8 * size {
		if slices.ContainsFunc(l, func(b []byte) bool { return plainBit(b, j) }) {
			out[j/8] ^= 1 << (j % 8)
		}
	}
	return out
}

func TestP13_3Several(t *testing.T) {
	r := byChance(8)
	for _, size := range sizes() {
		for n := 1; n < 6; n++ {
			var l [][]byte
			for range n {
				b := someBytes(r, size)
				for i, c := range someBytes(r, size) {
					b[i] &= c
				}
				l = append(l, b)
			}
			mustJoin(t, plainJoin(size, l), l...)
		}
	}
}

// TestP13_3EachBit: a bit that one filter alone has is there, whichever of them it is.
func TestP13_3EachBit(t *testing.T) {
	for j := range 64 {
		one := turned(make([]byte, 8), j)
		for i := range 5 {
			l := slices.Repeat([][]byte{make([]byte, 8)}, 5)
			l[i] = one
			mustJoin(t, one, l...)
		}
	}
	many := make([][]byte, 512)
	for j := range many {
		many[j] = turned(make([]byte, 64), j)
	}
	mustJoin(t, bytes.Repeat([]byte{255}, 64), many...)
}

func TestP13_3UnlikeSizes(t *testing.T) {
	for _, m := range sizes() {
		for _, n := range sizes() {
			if m != n {
				mustNotJoin(t, make([]byte, m), make([]byte, n))
				mustNotJoin(t, make([]byte, m), make([]byte, m), make([]byte, n))
				mustNotJoin(t, make([]byte, n), make([]byte, m), make([]byte, m))
			}
		}
	}
	mustNotJoin(t, make([]byte, 8), make([]byte, 16), make([]byte, 8))
}

// TestP13_3NoFilter: bytes that are no filter are refused, alone, of one size, and among filters, wherever they stand.
func TestP13_3NoFilter(t *testing.T) {
	good := make([]byte, 8)
	for _, n := range wrongLengths() {
		for _, b := range [][]byte{make([]byte, n), bytes.Repeat([]byte{255}, n)} {
			mustNotJoin(t, b)
			mustNotJoin(t, b, b)
			mustNotJoin(t, b, good)
			mustNotJoin(t, good, b)
			mustNotJoin(t, good, b, good)
			mustNotJoin(t, good, good, b)
		}
	}
	mustNotJoin(t, nil, nil, nil)
	mustNotJoin(t, []byte{}, good)
	mustNotJoin(t, make([]byte, 0, 8))
}

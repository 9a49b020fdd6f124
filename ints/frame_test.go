package ints_test

import (
	"math"
	"math/big"
	"testing"

	"colonnade/api"
	"colonnade/ints"
)

// framed is what ToFrame answers.
type framed struct {
	to        int
	v         uint64
	all, none bool
}

func mustFrame(t *testing.T, op int, c, base int64, width int, want framed) {
	t.Helper()
	var got framed
	if got.to, got.v, got.all, got.none = ints.ToFrame(op, c, base, width); got != want {
		t.Fatalf("ToFrame(%d, %d, %d, %d) = %+v; want %+v", op, c, base, width, got, want)
	}
}

// lastCode is the greatest of a frame's codes, as the chapter's word has it.
func lastCode(base int64, width int) uint64 {
	last := new(big.Int).Lsh(big.NewInt(1), uint(width))
	last.Sub(last, big.NewInt(1))
	room := new(big.Int).Sub(big.NewInt(greatest), big.NewInt(base))
	if last.Cmp(room) > 0 {
		last = room
	}
	return last.Uint64()
}

// numberOf is the number for which a code stands.
func numberOf(base int64, code uint64) int64 {
	return new(big.Int).Add(big.NewInt(base), new(big.Int).SetUint64(code)).Int64()
}

// codesFrom are all codes of a small frame; of a great one those at both ends, and those around c and far from it.
func codesFrom(base int64, width int, c int64) []uint64 {
	last := lastCode(base, width)
	var out []uint64
	if last < 300 {
		for code := range last + 1 {
			out = append(out, code)
		}
		return out
	}
	near := new(big.Int).Sub(big.NewInt(c), big.NewInt(base)).Uint64()
	for _, at := range []uint64{0, last, last / 2, near, near / 2, near/2 + last/2} {
		for _, code := range []uint64{at - 2, at - 1, at, at + 1, at + 2} {
			if code <= last {
				out = append(out, code)
			}
		}
	}
	return out
}

// plainFrame is P19.2, from what each of those codes says.
func plainFrame(op int, c, base int64, width int) framed {
	some, others := false, false
	for _, code := range codesFrom(base, width, c) {
		if stands(op, numberOf(base, code), c) {
			some = true
		} else {
			others = true
		}
	}
	switch {
	case !others:
		return framed{all: true}
	case !some:
		return framed{none: true}
	}
	return framed{to: op, v: new(big.Int).Sub(big.NewInt(c), big.NewInt(base)).Uint64()}
}

// mustStand holds ToFrame against the codes one by one: also, where it answers a code, that each of them stands so to it.
func mustStand(t *testing.T, op int, c, base int64, width int) {
	t.Helper()
	mustFrame(t, op, c, base, width, plainFrame(op, c, base, width))
	to, v, all, none := ints.ToFrame(op, c, base, width)
	for _, code := range codesFrom(base, width, c) {
		want := stands(op, numberOf(base, code), c)
		if got := all || !none && stands(to, code, v); got != want {
			t.Fatalf("ToFrame(%d, %d, %d, %d): the code %d says %v", op, c, base, width, code, got)
		}
	}
}

func frameBases() []int64 {
	return []int64{least, least + 1, least + 2, least + 100, -1 << 62, -1000, -2, -1, 0, 1, 2, 100, 1 << 31, 1 << 62, greatest - 300, greatest - 8, greatest - 7, greatest - 6, greatest - 3, greatest - 2, greatest - 1, greatest}
}

// TestP19_2Small: frames of few codes, each code asked, and constants from below them to above them.
func TestP19_2Small(t *testing.T) {
	for _, base := range frameBases() {
		for width := range 7 {
			for c := range int64(1)<<width + 5 {
				for _, op := range ops() {
					mustStand(t, op, base+c-2, base, width) // wraps round at the ends
				}
			}
			for _, c := range []int64{least, least + 1, -1, 0, 1, greatest - 1, greatest} {
				for _, op := range ops() {
					mustStand(t, op, c, base, width)
				}
			}
		}
	}
}

// TestP19_2EveryWidth: frames of every width, constants at and beside their ends, in their midst, and at the ends of all numbers.
func TestP19_2EveryWidth(t *testing.T) {
	for _, base := range frameBases() {
		for width := range 65 {
			top := numberOf(base, lastCode(base, width))
			for _, at := range []int64{base, top, base/2 + top/2, 0, least, greatest, base + 1<<(width%64)} {
				for _, c := range []int64{at - 2, at - 1, at, at + 1, at + 2} {
					for _, op := range ops() {
						mustStand(t, op, c, base, width)
					}
				}
			}
		}
	}
}

// TestP19_2ByChance: bases, widths and constants from anywhere.
func TestP19_2ByChance(t *testing.T) {
	r := byChance(1)
	for range 60000 {
		base, width := int64(r.Uint64())>>r.IntN(64), r.IntN(65)
		c := int64(r.Uint64()) >> r.IntN(64)
		if r.IntN(2) == 0 {
			c = base + int64(r.Uint64()>>1>>r.IntN(64)) - int64(r.IntN(3))
		}
		mustStand(t, 1+r.IntN(6), c, base, width)
	}
}

// TestP19_2Over: where base + 2^width - 1 is above all numbers, the codes that stand for none do not count.
func TestP19_2Over(t *testing.T) {
	for _, width := range []int{2, 3, 8, 62, 63, 64} {
		mustFrame(t, api.Le, greatest, greatest-1, width, framed{all: true})
		mustFrame(t, api.Gt, greatest, greatest-1, width, framed{none: true})
		mustFrame(t, api.Ge, greatest, greatest-1, width, framed{to: api.Ge, v: 1})
		mustFrame(t, api.Lt, greatest, greatest-1, width, framed{to: api.Lt, v: 1})
		mustFrame(t, api.Eq, greatest, greatest, width, framed{all: true})
		mustFrame(t, api.Ne, greatest, greatest, width, framed{none: true})
		mustFrame(t, api.Gt, least, greatest, width, framed{all: true})
		mustFrame(t, api.Eq, least, greatest, width, framed{none: true})
	}
	mustFrame(t, api.Le, greatest, 1, 63, framed{all: true})
	mustFrame(t, api.Le, greatest-1, 0, 63, framed{to: api.Le, v: greatest - 1})
	mustFrame(t, api.Le, greatest-1, -1, 63, framed{all: true})
	mustFrame(t, api.Lt, greatest, -1, 63, framed{all: true})
	mustFrame(t, api.Lt, greatest, 0, 63, framed{to: api.Lt, v: greatest})
	mustFrame(t, api.Lt, 0, least, 63, framed{all: true})
	mustFrame(t, api.Le, -1, least, 63, framed{all: true})
	mustFrame(t, api.Lt, -1, least, 63, framed{to: api.Lt, v: 1<<63 - 1})
	mustFrame(t, api.Eq, greatest, least, 64, framed{to: api.Eq, v: math.MaxUint64})
	mustFrame(t, api.Ne, least, least, 64, framed{to: api.Ne})
	mustFrame(t, api.Lt, least, least, 64, framed{none: true})
	mustFrame(t, api.Ge, least, least, 64, framed{all: true})
}

// TestP19_2Wrong: what is no Op, or no width, has no answer, whatever else is asked.
func TestP19_2Wrong(t *testing.T) {
	wrongOps := []int{0, -1, -2, 7, 8, 256, 257, 1<<32 + 1, math.MinInt, math.MaxInt}
	wrongWidths := []int{-1, -2, -64, 65, 66, 128, 256, 1 << 32, math.MinInt, math.MaxInt}
	for _, base := range []int64{least, -1, 0, 100, greatest} {
		for _, c := range []int64{least, base - 1, base, base + 1, greatest} {
			for _, op := range wrongOps {
				for _, width := range append([]int{0, 1, 3, 63, 64}, wrongWidths...) {
					mustFrame(t, op, c, base, width, framed{})
				}
			}
			for _, width := range wrongWidths {
				for _, op := range ops() {
					mustFrame(t, op, c, base, width, framed{})
				}
			}
		}
	}
}

package lanes_test

import (
	"math"
	"testing"

	"colonnade/api"
	"colonnade/lanes"
)

func TestP3_1Spread(t *testing.T) {
	for width := 1; width <= 64; width++ {
		for _, v := range []uint64{0, 1, 2, 0x5A5A5A5A5A5A5A5A, math.MaxUint64 / 3, math.MaxUint64 - 1, math.MaxUint64} {
			v &= most(width)
			want := wordOf(width, func(int) uint64 { return v })
			if x, e := lanes.Spread(v, width); x != want || e != api.OK {
				t.Errorf("Spread(%x, %d) = %x, %d, not %x", v, width, x, e, want)
			}
		}
	}
}

func TestP3_1SpreadWrong(t *testing.T) {
	spreadFails := func(v uint64, width int, want api.Errno) {
		t.Helper()
		if x, e := lanes.Spread(v, width); x != 0 || e != want {
			t.Errorf("Spread(%x, %d) = %x, %d, not error %d", v, width, x, e, want)
		}
	}
	for _, width := range append([]int{0}, notWidths...) {
		for _, v := range []uint64{0, 1, math.MaxUint64} {
			spreadFails(v, width, api.ErrWidth)
		}
	}
	for width := 1; width < 64; width++ {
		for _, v := range []uint64{most(width) + 1, most(width) + 2, 1 << 63, math.MaxUint64} {
			spreadFails(v, width, api.ErrOver)
		}
	}
}

// compared fails, unless a comparison of words has just the top bits of the lanes of which is says so.
func compared(t *testing.T, name string, compare func(x, y uint64, width int) (uint64, api.Errno), is func(v, w uint64) bool) {
	t.Helper()
	for width := 1; width <= 64; width++ {
		words := wordsFor(width)
		for _, x := range words {
			for _, y := range words {
				want := wordOf(width, func(i int) uint64 {
					if is(laneOf(x, width, i), laneOf(y, width, i)) {
						return 1 << (width - 1)
					}
					return 0
				})
				if m, e := compare(x, y, width); m != want || e != api.OK {
					t.Fatalf("%s(%x, %x, %d) = %x, %d, not %x", name, x, y, width, m, e, want)
				}
			}
		}
	}
	for _, width := range append([]int{0}, notWidths...) {
		for _, x := range []uint64{0, 1, math.MaxUint64} {
			if m, e := compare(x, 1, width); m != 0 || e != api.ErrWidth {
				t.Errorf("%s(%x, 1, %d) = %x, %d, not ErrWidth", name, x, width, m, e)
			}
		}
	}
}

func TestP3_2Equal(t *testing.T) {
	compared(t, "Equal", lanes.Equal, func(v, w uint64) bool { return v == w })
}

func TestP3_2Below(t *testing.T) {
	compared(t, "Below", lanes.Below, func(v, w uint64) bool { return v < w })
}

// TestP3_2EveryPair holds each number of few bits against each, beside a lane of all zeros and one of all ones.
func TestP3_2EveryPair(t *testing.T) {
	for width := 1; width <= 6; width++ {
		for v := range most(width) + 1 {
			for w := range most(width) + 1 {
				for _, beside := range [][2]uint64{{0, 0}, {0, most(width)}, {most(width), 0}, {most(width), most(width)}} {
					x, y := beside[0]|v<<width|beside[0]<<(2*width), beside[1]|w<<width|beside[1]<<(2*width)
					equal, _ := lanes.Equal(x, y, width)
					below, _ := lanes.Below(x, y, width)
					if top := 2*width - 1; isOne(equal, top) != (v == w) || isOne(below, top) != (v < w) {
						t.Fatalf("%d and %d of width %d: %x, %x", v, w, width, equal, below)
					}
				}
			}
		}
	}
}

func TestP3_3Marks(t *testing.T) {
	for width := 1; width <= 64; width++ {
		for _, m := range wordsFor(width) {
			want := uint64(0)
			for i := range 64 / width {
				if isOne(m, i*width+width-1) {
					want += 1 << i
				}
			}
			if got, e := lanes.Marks(m, width); got != want || e != api.OK {
				t.Errorf("Marks(%x, %d) = %x, %d, not %x", m, width, got, e, want)
			}
		}
	}
	for _, width := range append([]int{0}, notWidths...) {
		for _, m := range []uint64{0, 1, math.MaxUint64} {
			if got, e := lanes.Marks(m, width); got != 0 || e != api.ErrWidth {
				t.Errorf("Marks(%x, %d) = %x, %d, not ErrWidth", m, width, got, e)
			}
		}
	}
}

// markOf is the bit i of the marks of what a comparison answers.
func markOf(t *testing.T, compare func(x, y uint64, width int) (uint64, api.Errno), x, y uint64, width, i int) bool {
	t.Helper()
	m, e := compare(x, y, width)
	marks, f := lanes.Marks(m, width)
	if e != api.OK || f != api.OK {
		t.Fatalf("width %d: %d, %d", width, e, f)
	}
	return isOne(marks, i)
}

func TestP3_7LaneByLane(t *testing.T) {
	for width := 1; width <= 64; width++ {
		top, words := uint64(1)<<(width-1), wordsFor(width)
		for _, pair := range [][2]uint64{{0, 0}, {0, 1}, {1, 0}, {top, top - 1}, {top - 1, top}, {top, top}, {0, most(width)}, {most(width), 0}, {most(width), most(width)}} {
			for i := range 64 / width {
				own := most(width) << (i * width)
				for k, others := range words {
					x := others&^own | pair[0]<<(i*width)
					y := words[(k+7)%len(words)]&^own | pair[1]<<(i*width)
					if markOf(t, lanes.Equal, x, y, width, i) != (pair[0] == pair[1]) || markOf(t, lanes.Below, x, y, width, i) != (pair[0] < pair[1]) {
						t.Fatalf("lane %d of %x and %x, width %d", i, x, y, width)
					}
				}
			}
		}
	}
}

func TestP3_7Spread(t *testing.T) {
	for width := 1; width <= 64; width++ {
		for _, x := range wordsFor(width) {
			for _, v := range []uint64{0, 1, most(width) / 2, most(width)/2 + 1, most(width), laneOf(x, width, 0)} {
				s, _ := lanes.Spread(v, width)
				for i := range 64 / width {
					lane := laneOf(x, width, i)
					if markOf(t, lanes.Equal, x, s, width, i) != (lane == v) || markOf(t, lanes.Below, x, s, width, i) != (lane < v) || markOf(t, lanes.Below, s, x, width, i) != (v < lane) {
						t.Fatalf("lane %d of %x and %x, width %d", i, x, v, width)
					}
				}
			}
		}
	}
}

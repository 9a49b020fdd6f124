package chunk_test

import (
	"math"
	"slices"
	"testing"

	"colonnade/api"
	"colonnade/chunk"
)

func mustOpen(t *testing.T, col api.Column, rows int, b []byte) *chunk.Chunk {
	t.Helper()
	c, e := chunk.Open(col, rows, b)
	if e != api.OK || c == nil {
		t.Fatalf("Open(%v, %d, %s): %v, %d", col, rows, brief(b), c, e)
	}
	return c
}

func mustNotOpen(t *testing.T, col api.Column, rows int, b []byte, want api.Errno) {
	t.Helper()
	if c, e := chunk.Open(col, rows, b); e != want || c != nil {
		t.Fatalf("Open(%v, %d, %s): %s, %d; want %d", col, rows, brief(b), brief(c.Values()), e, want)
	}
}

// openAsPlain holds Open against the plain reading, and says whether a chunk was opened.
func openAsPlain(t *testing.T, col api.Column, rows int, b []byte) bool {
	t.Helper()
	l, codec, is := plainRead(col, rows, b)
	if !is {
		mustNotOpen(t, col, rows, b, api.ErrChunk)
		return false
	}
	c := mustOpen(t, col, rows, b)
	if c.Codec() != codec || c.Rows() != rows || !slices.Equal(c.Values(), l) {
		t.Fatalf("Open(%v, %d, %s): %v, %s; want %v, %s", col, rows, brief(b), c.Codec(), brief(c.Values()), codec, brief(l))
	}
	return true
}

// formsOf are the forms of a list by every codec that fits it, and, if it is short, by greater widths.
func formsOf(col api.Column, l []api.Value) [][]byte {
	var out [][]byte
	for _, c := range plainFit(col, l) {
		widths := []int{c.Width}
		if c.Kind >= api.Frame && len(l) < 20 {
			widths = append(widths, c.Width+1, c.Width+7, 63, 64)
		}
		for _, width := range widths {
			if b, e := plainForm(col, l, api.Codec{Kind: c.Kind, Width: width}); e == api.OK {
				out = append(out, b)
			}
		}
	}
	return out
}

// TestP12_3Forms: every form is opened, and with one row fewer and one more it is what the plain reading says.
func TestP12_3Forms(t *testing.T) {
	for i, col := range goodColumns() {
		for _, l := range manyLists(col, 200+uint64(i)) {
			for _, b := range formsOf(col, l) {
				if !openAsPlain(t, col, len(l), b) {
					t.Fatalf("the form of %s is none: %s", brief(l), brief(b))
				}
				openAsPlain(t, col, len(l)+1, b)
				openAsPlain(t, col, max(0, len(l)-1), b)
			}
		}
	}
}

// TestP12_3OtherColumn: the form of values of one column, opened for the others.
func TestP12_3OtherColumn(t *testing.T) {
	for i, col := range goodColumns() {
		for _, l := range manyLists(col, 300+uint64(i)) {
			for _, b := range formsOf(col, l) {
				for _, other := range goodColumns() {
					openAsPlain(t, other, len(l), b)
				}
				if col.Null && len(denseOf(l)) < len(l) {
					other := col
					other.Null = false
					mustNotOpen(t, other, len(l), b, api.ErrChunk)
				}
			}
		}
	}
}

// TestP12_3CutAndGrown: a form that is cut by one byte or more is none, nor is one with a byte behind it.
func TestP12_3CutAndGrown(t *testing.T) {
	for i, col := range goodColumns() {
		for _, l := range manyLists(col, 400+uint64(i)) {
			for _, b := range formsOf(col, l) {
				mustNotOpen(t, col, len(l), b[:len(b)-1], api.ErrChunk)
				for _, more := range []byte{0, 1, 255} {
					mustNotOpen(t, col, len(l), append(slices.Clone(b), more), api.ErrChunk)
				}
				for n := 0; n < len(b) && len(b) < 60; n++ {
					mustNotOpen(t, col, len(l), b[:n], api.ErrChunk)
				}
			}
		}
	}
}

// TestP12_3Turned: the first bytes of short forms, made every other one, and those behind them with bits turned.
func TestP12_3Turned(t *testing.T) {
	opened := 0
	for i, col := range goodColumns() {
		r := byChance(500 + uint64(i))
		for _, n := range []int{0, 1, 2, 3, 5, 8, 9, 11} {
			l := someValues(r, col, n)
			for _, b := range formsOf(col, l) {
				for at := range min(len(b), 40) {
					for more := 1; more < 256; more++ {
						if at > 3 && more&(more-1) != 0 {
							continue
						}
						turned := slices.Clone(b)
						turned[at] ^= byte(more)
						if openAsPlain(t, col, n, turned) {
							opened++
						}
					}
				}
			}
		}
	}
	if opened == 0 {
		t.Error("none of them is a form: the plain reading says too little")
	}
}

// TestP12_3EveryHead: every Kind, Width and number of nulls, with bits of the nulls and bytes behind them of all kinds.
func TestP12_3EveryHead(t *testing.T) {
	var tails [][]byte
	for _, x := range []byte{0, 1, 2, 3, 4, 6, 8, 16, 128, 255} {
		tails = append(tails, []byte{x})
		for _, y := range []byte{0, 1, 10} {
			tails = append(tails, []byte{x, y}, []byte{x, y, 2}, []byte{x, y, 1, 97}, []byte{x, y, 0, 0, 0, 0}, []byte{x, 1, y, 0, 0, 0, 0, 0, 0, 0})
		}
	}
	tails = append(tails, nil)
	opened := 0
	for _, col := range goodColumns() {
		for kind := range 8 {
			for _, width := range []byte{0, 1, 3, 64, 65, 255} {
				for _, count := range [][]byte{{0}, {1}, {2}, {3}, {4}, {127}, {129, 0}, {128, 0}, {130, 0}, {255, 255, 255, 255, 255, 255, 255, 255, 255, 1}, {128}} {
					for _, tail := range tails {
						b := slices.Concat([]byte{byte(kind), width}, count, tail)
						for rows := range 3 {
							if openAsPlain(t, col, rows, b) {
								opened++
							}
						}
					}
				}
			}
		}
	}
	if opened < 100 {
		t.Errorf("%d forms alone were met", opened)
	}
}

// TestP12_3ShortBytes: all bytes of up to four of a few, of few rows.
func TestP12_3ShortBytes(t *testing.T) {
	some := []byte{0, 1, 2, 3, 5, 64, 128}
	var grow func(b []byte)
	grow = func(b []byte) {
		for _, col := range goodColumns() {
			for rows := range 3 {
				openAsPlain(t, col, rows, b)
			}
		}
		if len(b) < 5 {
			for _, c := range some {
				grow(append(slices.Clone(b), c))
			}
		}
	}
	grow(nil)
}

// TestP12_3Nulls: the number of the nulls, their bits, and those behind the last one.
func TestP12_3Nulls(t *testing.T) {
	for _, rows := range []int{1, 2, 7, 8, 9, 63, 64, 65, 66, 128, 130} {
		l := nulls(rows)
		for i := range l {
			if i%3 == 1 {
				l[i] = one(4)
			}
		}
		lane := bitsOf(nullBits(l), 1)
		count := rows - len(denseOf(l))
		put := func(count int, lane []byte, dense int) []byte {
			return slices.Concat([]byte{5, 3}, short(uint64(count)), lane, bitsOf(slices.Repeat([]uint64{4}, max(0, dense)), 3))
		}
		c := mustOpen(t, intNull, rows, put(count, lane, rows-count))
		mustTell(t, c, intNull, l, api.Codec{Kind: api.Packed, Width: 3})
		for other := range rows + 2 {
			openAsPlain(t, intNull, rows, put(other, lane, rows-count))
			openAsPlain(t, intNull, rows, put(other, lane, rows-other))
			if other != count && other > 0 { // of none the bits would be those of a value
				mustNotOpen(t, intNull, rows, put(other, lane, rows-other), api.ErrChunk)
			}
		}
		for at := range len(lane) * 8 {
			turned := slices.Clone(lane)
			turned[at/8] ^= 1 << (at % 8)
			mustNotOpen(t, intNull, rows, put(count, turned, rows-count), api.ErrChunk)
			if at >= rows { // a bit behind the last one, whether it is counted or not
				mustNotOpen(t, intNull, rows, put(count+1, turned, rows-count-1), api.ErrChunk)
				mustNotOpen(t, intNull, rows, put(count+1, turned, rows-count), api.ErrChunk)
			}
		}
		zero := make([]byte, len(lane))
		mustNotOpen(t, intNull, rows, put(0, zero, rows), api.ErrChunk) // no null, but bits for them
		mustNotOpen(t, intNull, rows, put(count, nil, rows-count), api.ErrChunk)
		mustNotOpen(t, intCol, rows, put(count, lane, rows-count), api.ErrChunk)
		mustOpen(t, intCol, rows, put(0, nil, rows))
	}
	mustNotOpen(t, intNull, 0, []byte{1, 0, 1}, api.ErrChunk)
	mustNotOpen(t, intNull, 0, []byte{1, 0, 1, 1}, api.ErrChunk)
}

// TestP12_3Order: the errors in the order in which the promise names them.
func TestP12_3Order(t *testing.T) {
	form := []byte{3, 0, 0, 1, 1, 10}
	for _, b := range [][]byte{nil, form, {9, 9, 9}} {
		for _, rows := range []int{math.MinInt, -1, 0, 1, api.MaxRows, api.MaxRows + 1, math.MaxInt} {
			for _, kind := range []int{math.MinInt, -1, api.Null, api.Real, 4, math.MaxInt} {
				mustNotOpen(t, api.Column{Type: kind, Null: true}, rows, b, api.ErrSchema)
			}
			for _, col := range goodColumns() {
				switch {
				case rows < 0:
					mustNotOpen(t, col, rows, b, api.ErrArg)
				case rows > api.MaxRows:
					mustNotOpen(t, col, rows, b, api.ErrLarge)
				case rows != 1 || b == nil || b[0] == 9 || col.Type == api.Text:
					mustNotOpen(t, col, rows, b, api.ErrChunk)
				default:
					mustOpen(t, col, rows, b)
				}
			}
		}
	}
}

// TestP12_3MoreThanOneForm: bytes that a reader which looked less closely would take for other values.
func TestP12_3MoreThanOneForm(t *testing.T) {
	for _, b := range [][]byte{
		{3, 0, 0, 2, 1, 10, 1, 10}, // runs that are one
		{3, 0, 0, 129, 0, 2, 10},   // how many runs there are, in a longer form
		{3, 0, 128, 0, 1, 2, 10},   // how many nulls, in a longer form
		{2, 0, 0, 2, 3, 0, 0, 0, 0, 0, 0, 0, 7, 0, 0, 0, 0, 0, 0, 0, 0}, // a key without a code
		{2, 0, 0, 2, 7, 0, 0, 0, 0, 0, 0, 0, 3, 0, 0, 0, 0, 0, 0, 0, 1}, // keys that fall
		{4, 2, 0, 5, 0, 0, 0, 0, 0, 0, 0, 6},                            // a base that is not the least
		{5, 2, 0, 18},                                                   // a bit behind the last lane
		{5, 64, 0, 0, 0, 0, 0, 0, 0, 0, 128, 0, 0, 0, 0, 0, 0, 0, 0},    // a number above the greatest
		{1, 1, 0, 0, 0, 0, 0, 0, 0, 0, 0, 0, 0, 0, 0, 0, 0, 0, 0},       // a width by Plain
	} {
		mustNotOpen(t, intCol, 2, b, api.ErrChunk)
		mustNotOpen(t, intNull, 2, b, api.ErrChunk)
	}
	for _, b := range [][]byte{
		{1, 0, 0, 1, 0, 0, 0, 2, 0, 0, 0, 3, 0, 0, 0, 97, 98, 99}, // ends that do not begin with 0
		{1, 0, 0, 0, 0, 0, 0, 2, 0, 0, 0, 1, 0, 0, 0, 97, 98},     // ends that fall
		{4, 0, 0, 0, 0, 0, 0, 0, 0, 0, 0},                         // a codec of Ints
		{5, 0, 0},
	} {
		mustNotOpen(t, textCol, 2, b, api.ErrChunk)
		mustNotOpen(t, textNull, 2, b, api.ErrChunk)
	}
	long := append(slices.Concat([]byte{3, 0, 0, 1, 1}, short(api.MaxText+1)), make([]byte, api.MaxText+1)...)
	mustNotOpen(t, textNull, 1, long, api.ErrChunk) // a text that may not be
	most := append(slices.Concat([]byte{3, 0, 0, 1, 1}, short(api.MaxText)), make([]byte, api.MaxText)...)
	mustOpen(t, textNull, 1, most)
}

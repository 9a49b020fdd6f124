package chunk_test

import (
	"iter"
	"math"
	"slices"
	"sync"
	"testing"

	"colonnade/api"
	"colonnade/bits"
	"colonnade/chunk"
	"colonnade/sel"
)

// codecsFor are the codecs that Fit tells, and every greater width of those that have one.
func codecsFor(col api.Column, l []api.Value) []api.Codec {
	var out []api.Codec
	for _, c := range chunk.Fit(col, l) {
		out = append(out, c)
		for width := c.Width + 1; c.Kind >= api.Frame && width <= 64 && len(l) < 20; width++ {
			out = append(out, api.Codec{Kind: c.Kind, Width: width})
		}
	}
	return out
}

// TestP12_9ThereAndBack: by every codec that fits the values come back, and are encoded to the same bytes again.
func TestP12_9ThereAndBack(t *testing.T) {
	for i, col := range goodColumns() {
		for _, l := range manyLists(col, 900+uint64(i)) {
			for _, codec := range codecsFor(col, l) {
				b, e := chunk.Encode(col, l, codec)
				if e != api.OK {
					t.Fatalf("Encode(%s, %v): %d", brief(l), codec, e)
				}
				c := mustOpen(t, col, len(l), b)
				if c.Codec() != codec || !slices.Equal(c.Values(), l) {
					t.Fatalf("%s by %v: %s by %v", brief(l), codec, brief(c.Values()), c.Codec())
				}
				mustEncode(t, c.Column(), c.Values(), c.Codec(), b)
			}
		}
	}
}

// TestP12_9OneForm: what is opened of bytes by chance is encoded to them again.
func TestP12_9OneForm(t *testing.T) {
	r := byChance(3)
	opened := 0
	for range 15000 {
		col, rows := goodColumns()[r.IntN(4)], r.IntN(12)
		forms := formsOf(col, someValues(r, col, rows))
		b := forms[r.IntN(len(forms))]
		if r.IntN(8) > 0 {
			b[r.IntN(len(b))] = byte(r.IntN(256) >> r.IntN(8))
		}
		c, e := chunk.Open(col, rows, b)
		if e == api.OK {
			opened++
			mustEncode(t, c.Column(), c.Values(), c.Codec(), b)
		}
	}
	if opened < 300 {
		t.Errorf("%d forms alone", opened)
	}
}

// TestP12_9CodecIsNotSeen: each answer of a chunk but Codec and Body is the same by every codec.
func TestP12_9CodecIsNotSeen(t *testing.T) {
	for i, col := range goodColumns() {
		for _, l := range manyLists(col, 1000+uint64(i)) {
			var first *chunk.Chunk
			for _, b := range formsOf(col, l) {
				c := mustOpen(t, col, len(l), b)
				if first == nil {
					first = c
				}
				mustAnswerAlike(t, first, c)
			}
		}
	}
}

func mustAnswerAlike(t *testing.T, a, b *chunk.Chunk) {
	t.Helper()
	if a.Rows() != b.Rows() || a.Column() != b.Column() || a.Count() != b.Count() || !sameSet(a.Nulls(), b.Nulls()) || !slices.Equal(a.Values(), b.Values()) {
		t.Fatalf("by %v and %v: %s and %s", a.Codec(), b.Codec(), brief(a.Values()), brief(b.Values()))
	}
	for i := -1; i <= a.Rows(); i++ {
		v, is := a.Value(i)
		mustValue(t, b, i, v, is)
	}
	for _, rows := range chosen(a.Rows(), 7) {
		s, _ := sel.At(a.Rows(), rows)
		want, _ := a.Gather(s)
		mustGather(t, b, s, want)
	}
	for _, n := range []int{a.Rows() + 1, a.Rows() + 64} {
		mustNotGather(t, b, sel.None(n), api.ErrSize)
	}
}

// TestP12_10Fit: Plain always fits, and so does Dict, where it may; no codec's form is shorter than the best one's.
func TestP12_10Fit(t *testing.T) {
	for i, col := range goodColumns() {
		for _, l := range manyLists(col, 1100+uint64(i)) {
			fit := chunk.Fit(col, l)
			if len(fit) < 3 || fit[0] != (api.Codec{Kind: api.Plain}) || fit[1] != (api.Codec{Kind: api.Dict}) {
				t.Fatalf("Fit(%v, %s): %v", col, brief(l), fit)
			}
			best, e := chunk.Encode(col, l, chunk.Best(col, l))
			if e != api.OK || !slices.Contains(fit, chunk.Best(col, l)) {
				t.Fatalf("Best(%v, %s): %v, %d", col, brief(l), chunk.Best(col, l), e)
			}
			for _, c := range codecsFor(col, l) {
				if b, _ := chunk.Encode(col, l, c); len(b) < len(best) {
					t.Fatalf("%s: %d bytes by %v, %d by the best", brief(l), len(b), c, len(best))
				}
			}
		}
	}
}

// TestP12_10Others: a codec that Fit does not tell does not fit, nor does a lesser width.
func TestP12_10Others(t *testing.T) {
	r := byChance(4)
	for range 40 {
		for _, col := range goodColumns() {
			l := someValues(r, col, r.IntN(12))
			fit := chunk.Fit(col, l)
			for _, c := range allCodecs() {
				_, e := chunk.Encode(col, l, c)
				told := slices.ContainsFunc(fit, func(f api.Codec) bool {
					return f.Kind == c.Kind && (f.Width == c.Width || f.Width < c.Width && c.Width <= 64 && c.Kind >= api.Frame)
				})
				if told != (e == api.OK) {
					t.Fatalf("%v by %v: %d, but Fit is %v", l, c, e, fit)
				}
			}
		}
	}
}

// TestP12_11Gather: Gather is Values without the others, and Value of each number.
func TestP12_11Gather(t *testing.T) {
	eachChunk(t, 1200, func(c *chunk.Chunk, _ api.Column, l []api.Value, _ api.Codec) {
		all := c.Values()
		for _, rows := range chosen(len(l), 11) {
			s, _ := sel.At(len(l), rows)
			got, e := c.Gather(s)
			if e != api.OK || len(got) != len(rows) {
				t.Fatalf("Gather(%v): %d, %d", rows, len(got), e)
			}
			var kept []api.Value
			for i, v := range all {
				if s.Has(i) {
					kept = append(kept, v)
				}
			}
			if !slices.Equal(got, kept) {
				t.Fatalf("Gather(%v): %s, not %s", rows, brief(got), brief(kept))
			}
			for k, i := range rows {
				mustValue(t, c, i, got[k], true)
			}
		}
	})
}

// TestP12_11Spread: what is said of the dense values is said of the rows by Spread.
func TestP12_11Spread(t *testing.T) {
	r := byChance(5)
	eachChunk(t, 1300, func(c *chunk.Chunk, _ api.Column, l []api.Value, _ api.Codec) {
		of := denseOf(l)
		says := func(v api.Value) bool { return (v.Int^int64(len(v.Text)))&1 == 1 }
		about, chance := bits.New(len(of)), bits.New(len(of))
		for k, v := range of {
			about.Put(k, says(v))
			chance.Put(k, r.IntN(2) == 0)
		}
		rows, e := chunk.Spread(about, c.Nulls())
		if e != api.OK || rows.Len() != len(l) {
			t.Fatalf("Spread: %d", e)
		}
		for i, v := range l {
			if rows.Get(i) != (v.Kind != api.Null && says(v)) {
				t.Fatalf("Spread of %s says of row %d: %t", brief(l), i, rows.Get(i))
			}
		}
		rows, _ = chunk.Spread(chance, c.Nulls())
		k := 0
		for i, v := range l {
			if rows.Get(i) != (v.Kind != api.Null && chance.Get(k)) {
				t.Fatalf("Spread of %s says of row %d: %t", brief(l), i, rows.Get(i))
			}
			if v.Kind != api.Null {
				k++
			}
		}
	})
}

// odd is a selection of a kind that layer 4 does not have; nothing is promised of it, but that no call panics.
type odd struct{}

func (odd) Len() int           { return 1 }
func (odd) Count() int         { return -1 }
func (odd) Has(int) bool       { return true }
func (odd) All() iter.Seq[int] { return nil }
func (odd) Bits() *bits.Set    { return nil }
func (odd) List() []int        { return nil }

// TestW0NoPanic: each call ends without a panic, whatever it is given.
func TestW0NoPanic(t *testing.T) {
	good := mustOpen(t, intNull, 1, []byte{3, 0, 0, 1, 1, 10})
	var noDense *sel.Dense
	var noSparse *sel.Sparse
	for _, c := range []*chunk.Chunk{nil, {}, good} {
		for _, s := range []sel.Sel{odd{}, &odd{}, noDense, noSparse, sel.Dense{}, sel.Sparse{}, sel.Whole(1), nil} {
			c.Gather(s)
		}
		for _, i := range []int{math.MinInt, -1, 0, 1, 63, 64, math.MaxInt} {
			c.Value(i)
		}
	}
	kinds := []int{math.MinInt, -1, 0, 1, 2, 3, 4, 256, math.MaxInt}
	lists := [][]api.Value{nil, numbers(1), words("x"), nulls(1), {{Kind: 9}}, {{Kind: 3, Real: math.NaN()}}}
	for _, kind := range kinds {
		for _, null := range []bool{false, true} {
			col := api.Column{Type: kind, Null: null}
			for _, l := range lists {
				chunk.Fit(col, l)
				chunk.Best(col, l)
				for _, c := range allCodecs() {
					chunk.Encode(col, l, c)
				}
			}
			for _, rows := range []int{math.MinInt, -1, 0, 1, 2, api.MaxRows, api.MaxRows + 1, math.MaxInt} {
				for _, b := range [][]byte{nil, {1}, {1, 0}, {3, 0, 0, 1, 1, 10}, slices.Repeat([]byte{255}, 99), {1, 0, 255, 255, 255, 255, 255, 255, 255, 255, 255, 1}} {
					chunk.Open(col, rows, b)
				}
			}
		}
	}
}

// TestW0AnyBytes: bytes by chance are opened or refused, with whatever number of rows.
func TestW0AnyBytes(t *testing.T) {
	r := byChance(6)
	for range 60000 {
		b := make([]byte, r.IntN(30))
		for i := range b {
			b[i] = byte(r.IntN(256) >> r.IntN(9))
		}
		if len(b) > 1 {
			b[0], b[1] = byte(r.IntN(7)), byte(r.IntN(3)*r.IntN(40))
		}
		openAsPlain(t, goodColumns()[r.IntN(4)], r.IntN(20), b)
	}
}

// TestPageManyAtOnce: a chunk that many ask beside one another tells each the same.
func TestPageManyAtOnce(t *testing.T) {
	r := byChance(7)
	for _, col := range goodColumns() {
		l := someValues(r, col, 500)
		for _, b := range formsOf(col, l) {
			c := mustOpen(t, col, len(l), b)
			var all sync.WaitGroup
			for k := range 4 {
				all.Go(func() {
					for i := k; i < len(l); i += 50 {
						if v, is := c.Value(i); v != l[i] || !is {
							t.Errorf("Value(%d): %v", i, v)
						}
					}
					if !slices.Equal(c.Values(), l) || c.Body().Count() != c.Count() {
						t.Errorf("%v", c.Codec())
					}
				})
			}
			all.Wait()
		}
	}
}

// TestP12_1MaxRows: as many values as there may be, and one more, of every codec that is short then.
func TestP12_1MaxRows(t *testing.T) {
	if testing.Short() {
		t.Skip("many values")
	}
	room := make([]api.Value, api.MaxRows+1) // all Null
	for _, codec := range []api.Codec{{Kind: api.Plain}, {Kind: api.Packed, Width: 64}} {
		mustNotEncode(t, intNull, room, codec, api.ErrLarge)
	}
	mustFit(t, intNull, room, nil)
	mustBest(t, textNull, room, api.Codec{})
	l := room[:api.MaxRows]
	lane := slices.Repeat([]byte{255}, api.MaxRows/8)
	form := slices.Concat([]byte{3, 0, 128, 128, 128, 8}, lane, []byte{0})
	mustEncode(t, textNull, l, api.Codec{Kind: api.Runs}, form)
	c := mustOpen(t, textNull, api.MaxRows, form)
	if c.Rows() != api.MaxRows || c.Count() != 0 || c.Nulls().Count() != api.MaxRows || c.Body().Count() != 0 {
		t.Errorf("%d rows, %d not Null", c.Rows(), c.Count())
	}
	mustValue(t, c, api.MaxRows-1, api.Value{}, true)
	mustValue(t, c, api.MaxRows, api.Value{}, false)
	mustNotOpen(t, textNull, api.MaxRows-1, form, api.ErrChunk)
	mustNotOpen(t, textNull, api.MaxRows+1, form, api.ErrLarge)
	mustNotOpen(t, textCol, api.MaxRows, form, api.ErrChunk)
}

// TestP12_3MaxRows: as many values as there may be, of few bytes.
func TestP12_3MaxRows(t *testing.T) {
	if testing.Short() {
		t.Skip("many values")
	}
	last, _ := sel.At(api.MaxRows, []int{0, 77, api.MaxRows - 1})
	five := numbers(5)[0]
	for _, form := range [][]byte{
		{2, 0, 0, 1, 5, 0, 0, 0, 0, 0, 0, 0},
		{3, 0, 0, 1, 128, 128, 128, 8, 10},
		{4, 0, 0, 5, 0, 0, 0, 0, 0, 0, 0},
	} {
		c := mustOpen(t, intNull, api.MaxRows, form)
		if c.Rows() != api.MaxRows || c.Count() != api.MaxRows || c.Nulls().Count() != 0 || c.Body().Count() != api.MaxRows {
			t.Errorf("%d rows, %d not Null", c.Rows(), c.Count())
		}
		mustValue(t, c, api.MaxRows-1, five, true)
		mustValue(t, c, api.MaxRows, api.Value{}, false)
		mustGather(t, c, last, []api.Value{five, five, five})
		mustNotOpen(t, intNull, api.MaxRows+1, form, api.ErrLarge)
	}
	// Every other one is Null.
	half := slices.Concat([]byte{3, 0, 128, 128, 128, 4}, slices.Repeat([]byte{0x55}, api.MaxRows/8), []byte{1, 128, 128, 128, 4, 10})
	c := mustOpen(t, intNull, api.MaxRows, half)
	mustGather(t, c, last, []api.Value{{}, five, five})
	all := bits.New(api.MaxRows / 2).Not()
	if s, e := chunk.Spread(all, c.Nulls()); e != api.OK || !sameSet(s, c.Nulls().Not()) {
		t.Errorf("Spread: %d", e)
	}
	l := c.Values()
	if len(l) != api.MaxRows || l[0] != (api.Value{}) || l[1] != five || l[api.MaxRows-1] != five {
		t.Errorf("%d values", len(l))
	}
	mustEncode(t, intNull, l, c.Codec(), half)
}

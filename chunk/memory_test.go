package chunk_test

import (
	"slices"
	"testing"

	"colonnade/api"
	"colonnade/bits"
	"colonnade/chunk"
	"colonnade/runs"
	"colonnade/sel"
)

// spoil writes over a list and its spare room, and behind it.
func spoil[T any](l []T, with T) {
	l = l[:cap(l)]
	for i := range l {
		l[i] = with
	}
	_ = append(l, with)
}

// spoilt is a value that no test has.
func spoilt() api.Value { return api.Value{Kind: 77, Int: 77, Real: 77, Text: "spoilt"} }

// spoilBody writes over all lists of a body.
func spoilBody(b chunk.Body) {
	switch x := b.(type) {
	case chunk.IntPlain:
		spoil(x.Values, -77)
	case chunk.IntDict:
		spoil(x.Keys, -77)
		spoil(x.Codes, 0xEE)
	case chunk.IntRuns:
		spoil(x.Runs, runs.Run[int64]{Value: -77, N: -77})
	case chunk.IntFrame:
		spoil(x.Lanes, 0xEE)
	case chunk.TextPlain:
		spoil(x.Values, "spoilt")
	case chunk.TextDict:
		spoil(x.Keys, "spoilt")
		spoil(x.Codes, 0xEE)
	case chunk.TextRuns:
		spoil(x.Runs, runs.Run[string]{Value: "spoilt", N: -77})
	}
}

// spoilSet turns every number of a set.
func spoilSet(s *bits.Set) {
	for i := range s.Len() {
		s.Put(i, !s.Get(i))
	}
}

// TestP12_12Encode: the values that are handed in stay as they are, with their spare room, and bytes that are answered are apart from those of another call.
func TestP12_12Encode(t *testing.T) {
	for i, col := range goodColumns() {
		for _, l := range manyLists(col, 1400+uint64(i)) {
			room := append(slices.Clone(l), spoilt(), spoilt())
			was, given := slices.Clone(room), room[:len(l)]
			for _, codec := range chunk.Fit(col, given) {
				want, _ := plainForm(col, l, codec)
				kept, _ := chunk.Encode(col, given, codec)
				other, _ := chunk.Encode(col, given, codec)
				spoil(other, 0xEE)
				if !slices.Equal(kept, want) || !slices.Equal(room, was) {
					t.Fatalf("%s by %v: %s, %s", brief(l), codec, brief(kept), brief(room))
				}
				mustEncode(t, col, given, codec, want)
			}
			chunk.Best(col, given)
			if !slices.Equal(room, was) {
				t.Fatalf("what was handed in to Fit and Best: %s, not %s", brief(room), brief(was))
			}
		}
	}
}

// TestP12_12Fit: codecs that are answered are apart from those of another call.
func TestP12_12Fit(t *testing.T) {
	for _, col := range goodColumns() {
		for _, l := range edgeLists(col) {
			want, other := chunk.Fit(col, l), chunk.Fit(col, l)
			kept := slices.Clone(want)
			spoil(other, api.Codec{Kind: 77, Width: 77})
			if !slices.Equal(want, kept) || !slices.Equal(chunk.Fit(col, l), kept) {
				t.Fatalf("Fit(%v, %s): %v", col, brief(l), want)
			}
		}
	}
}

// TestP12_12Open: the bytes stay as they are, with their spare room, and what becomes of them later is not seen.
func TestP12_12Open(t *testing.T) {
	for i, col := range goodColumns() {
		for _, l := range manyLists(col, 1500+uint64(i)) {
			for _, b := range formsOf(col, l) {
				room := append(slices.Clone(b), "spare room"...)
				was := slices.Clone(room)
				c := mustOpen(t, col, len(l), room[:len(b)])
				codec := api.Codec{Kind: int(b[0]), Width: int(b[1])}
				if !slices.Equal(room, was) {
					t.Fatalf("the bytes: %s, not %s", brief(room), brief(was))
				}
				spoil(room, 0xEE)
				mustTell(t, c, col, l, codec)
			}
		}
	}
}

// TestP12_12Answers: whatever is written over one answer, the chunk and its other answers stay as they are.
func TestP12_12Answers(t *testing.T) {
	eachChunk(t, 1600, func(c *chunk.Chunk, col api.Column, l []api.Value, codec api.Codec) {
		all, whole := c.Values(), sel.Whole(len(l))
		gathered, _ := c.Gather(whole)
		body, null := c.Body(), c.Nulls()
		spoil(c.Values(), spoilt())
		again, _ := c.Gather(whole)
		spoil(again, spoilt())
		spoilBody(c.Body())
		spoilSet(c.Nulls())
		if !slices.Equal(all, l) || !slices.Equal(gathered, l) || !sameSet(null, setOf(nullBits(l))) {
			t.Fatalf("%s by %v: %s, %s", brief(l), codec, brief(all), brief(gathered))
		}
		if whole.Len() != len(l) || whole.Count() != len(l) {
			t.Fatalf("the selection that was handed in has %d of %d rows", whole.Count(), whole.Len())
		}
		mustBody(t, c, body)
		mustTell(t, c, col, l, codec)
		spoil(all, spoilt())
		spoil(gathered, spoilt())
		spoilBody(body)
		spoilSet(null)
		mustTell(t, c, col, l, codec)
	})
}

// TestP12_12Keys: the keys and the codes of one body share nothing.
func TestP12_12Keys(t *testing.T) {
	b, _ := plainForm(intCol, numbers(7, 3, 7, 9, 9), api.Codec{Kind: api.Dict})
	x := mustOpen(t, intCol, 5, b).Body().(chunk.IntDict)
	codes := slices.Clone(x.Codes)
	spoil(x.Keys, -77)
	if !slices.Equal(x.Codes, codes) {
		t.Errorf("codes behind keys that were written over: %v", x.Codes)
	}
	b, _ = plainForm(textCol, words("b", "a", "c"), api.Codec{Kind: api.Dict})
	y := mustOpen(t, textCol, 3, b).Body().(chunk.TextDict)
	spoil(y.Codes, 0xEE)
	if !slices.Equal(y.Keys, []string{"a", "b", "c"}) {
		t.Errorf("keys behind codes that were written over: %q", y.Keys)
	}
}

// TestP12_12OneOfMany: two chunks of the same bytes, and a copy of a chunk, share nothing that can be seen.
func TestP12_12OneOfMany(t *testing.T) {
	l := []api.Value{one(4), {}, one(6), one(6)}
	for _, b := range formsOf(intNull, l) {
		c, d := mustOpen(t, intNull, 4, b), mustOpen(t, intNull, 4, b)
		if c == d {
			t.Error("two calls answer one chunk")
		}
		copied := *c
		spoilBody(copied.Body())
		spoilSet(copied.Nulls())
		spoilBody(d.Body())
		spoilSet(d.Nulls())
		codec := api.Codec{Kind: int(b[0]), Width: int(b[1])}
		mustTell(t, c, intNull, l, codec)
		mustTell(t, d, intNull, l, codec)
		mustTell(t, &copied, intNull, l, codec)
	}
}

// TestP12_12Spread: the set that is answered is apart from those that are handed in, also where there is no null, or nothing but nulls.
func TestP12_12Spread(t *testing.T) {
	for _, missing := range [][]uint64{{}, {0, 0, 0}, {1, 1, 1}, {0, 1, 0}, make([]uint64, 130)} {
		var of []uint64
		for i, bit := range missing {
			if bit == 0 {
				of = append(of, uint64(i)%2)
			}
		}
		want := setOf(plainSpread(of, missing))
		dense, null := setOf(of), setOf(missing)
		rows, _ := chunk.Spread(dense, null)
		other, _ := chunk.Spread(dense, null)
		spoilSet(other)
		if !sameSet(dense, setOf(of)) || !sameSet(null, setOf(missing)) || !sameSet(rows, want) {
			t.Fatalf("behind an answer that was written over: %v", missing)
		}
		spoilSet(dense)
		spoilSet(null)
		if !sameSet(rows, want) {
			t.Fatalf("behind sets that were written over: %v", missing)
		}
	}
}

// TestP12_12Gather: a selection that is handed in, and turned behind that, is not kept.
func TestP12_12Gather(t *testing.T) {
	l := []api.Value{one(4), {}, one(6)}
	b, _ := plainForm(intNull, l, api.Codec{Kind: api.Dict})
	c := mustOpen(t, intNull, 3, b)
	set := bits.Of(true, true, false)
	s := sel.Dense{Set: set}
	got, _ := c.Gather(s)
	if !sameSet(set, bits.Of(true, true, false)) {
		t.Error("the selection was turned")
	}
	set.Put(2, true)
	if !slices.Equal(got, l[:2]) {
		t.Errorf("%v", got)
	}
	mustGather(t, c, s, l)
}

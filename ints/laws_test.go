package ints_test

import (
	"slices"
	"testing"

	"colonnade/api"
	"colonnade/atom"
	"colonnade/bits"
	"colonnade/chunk"
	"colonnade/ints"
)

// lists are all lists, and many by chance, of lengths around which a byte or a word begins or ends.
func lists(seed uint64) [][]api.Value {
	r, out := byChance(seed), allLists()
	for _, n := range []int{1, 2, 3, 5, 8, 9, 17, 31, 63, 64, 65, 127, 128, 129, 200} {
		for range 8 {
			out = append(out, someList(r, n))
		}
	}
	return out
}

// eachAnswer hands on what Test answers of lists and atoms by chance, by every codec.
func eachAnswer(t *testing.T, seed uint64, f func(l []api.Value, p api.Pred, ch *chunk.Chunk, yes, unknown *bits.Set)) {
	t.Helper()
	r := byChance(seed)
	for _, l := range lists(seed) {
		chunks := chunksOf(t, withNulls, l, []int{5, 16, 47, 63, 64})
		for range 60 {
			p := someAtom(r, l)
			for _, ch := range chunks {
				yes, unknown, e := ints.Test(ch, p)
				if e != api.OK {
					t.Fatalf("%s by %v, %s: %d", brief(l), ch.Codec(), brief(p), e)
				}
				f(l, p, ch, yes, unknown)
			}
		}
	}
}

// TestP19_3RowByRow: both sets are what layer 18's Test says of each of the chunk's values.
func TestP19_3RowByRow(t *testing.T) {
	eachAnswer(t, 10, func(l []api.Value, p api.Pred, ch *chunk.Chunk, yes, unknown *bits.Set) {
		if yes.Len() != len(l) || unknown.Len() != len(l) {
			t.Fatalf("%s by %v, %s: lengths %d and %d", brief(l), ch.Codec(), brief(p), yes.Len(), unknown.Len())
		}
		for i := range l {
			v, _ := ch.Value(i)
			truth := atom.Test(p, v)
			if v != l[i] || yes.Get(i) != (truth == api.Yes) || unknown.Get(i) != (truth == api.Maybe) {
				t.Fatalf("%s by %v, %s, row %d: %v, unknown %v; of %v layer 18 says %d", brief(l), ch.Codec(), brief(p), i, yes.Get(i), unknown.Get(i), v, truth)
			}
		}
	})
}

// TestP19_3Codecs: of the same values the sets are the same, whatever the codec.
func TestP19_3Codecs(t *testing.T) {
	r := byChance(11)
	for _, l := range lists(11) {
		chunks := chunksOf(t, withNulls, l, someWidths())
		if len(chunks) < 4 {
			t.Fatalf("%s: %d chunks alone", brief(l), len(chunks))
		}
		for range 60 {
			p := someAtom(r, l)
			yes, unknown, _ := ints.Test(chunks[0], p)
			for _, ch := range chunks[1:] {
				y, u, e := ints.Test(ch, p)
				if e != api.OK || y.Len() != yes.Len() || u.Len() != unknown.Len() || !slices.Equal(y.Words(), yes.Words()) || !slices.Equal(u.Words(), unknown.Words()) {
					t.Fatalf("%s, %s by %v: %x, unknown %x, %d; by %v: %x, unknown %x", brief(l), brief(p), ch.Codec(), y.Words(), u.Words(), e, chunks[0].Codec(), yes.Words(), unknown.Words())
				}
			}
		}
	}
}

// TestP19_3Column: whether nulls may stand in the column, and what its name is, says nothing of the same numbers.
func TestP19_3Column(t *testing.T) {
	r := byChance(12)
	for _, l := range denseLists() {
		with, without := chunksOf(t, withNulls, l, nil), chunksOf(t, noNulls, l, nil)
		named := withNulls
		named.Name = "other"
		others := chunksOf(t, named, l, nil)
		for range 40 {
			p := someAtom(r, l)
			mustSay(t, slices.Concat(with, without), l, p)
			p.Column = "other"
			mustSay(t, others, l, p)
		}
	}
}

// TestP19_4Unknown: no row is in both sets; unknown are the nulls, and none of PredNull.
func TestP19_4Unknown(t *testing.T) {
	eachAnswer(t, 13, func(l []api.Value, p api.Pred, ch *chunk.Chunk, yes, unknown *bits.Set) {
		both, e := yes.And(unknown)
		if e != api.OK || both.Count() != 0 {
			t.Fatalf("%s by %v, %s: %d rows in both, %d", brief(l), ch.Codec(), brief(p), both.Count(), e)
		}
		want := ch.Nulls()
		if p.Kind == api.PredNull {
			mustBe(t, "the nulls", yes, len(l), want.Words())
			want = bits.New(len(l))
		}
		mustBe(t, "unknown", unknown, len(l), want.Words())
	})
}

// TestP19_4Opposite: of an atom and its opposite each row that is not null is in just one yes.
func TestP19_4Opposite(t *testing.T) {
	asked := 0
	eachAnswer(t, 14, func(l []api.Value, p api.Pred, ch *chunk.Chunk, yes, unknown *bits.Set) {
		q, is := atom.Not(p)
		if !is {
			return
		}
		asked++
		no, unknownToo, e := ints.Test(ch, q)
		if e != api.OK {
			t.Fatalf("%s by %v, %s: %d", brief(l), ch.Codec(), brief(q), e)
		}
		mustBe(t, brief(q), unknownToo, len(l), unknown.Words())
		// What is in just one of the two is in one of the two, if none is in both.
		one, _ := yes.Xor(no)
		mustBe(t, brief(p)+" or its opposite", one, len(l), ch.Nulls().Not().Words())
		either, _ := yes.Or(no)
		mustBe(t, brief(p)+" and its opposite", either, len(l), ch.Nulls().Not().Words())
	})
	if asked < 10000 {
		t.Errorf("%d opposites alone", asked)
	}
}

// TestP19_4Parts: Between is what both of its bounds say together, In what its values say by themselves, of all codecs.
func TestP19_4Parts(t *testing.T) {
	eachAnswer(t, 15, func(l []api.Value, p api.Pred, ch *chunk.Chunk, yes, _ *bits.Set) {
		yesOf := func(op int, v api.Value) *bits.Set {
			s, _, _ := ints.Test(ch, compared(op, v.Int))
			return s
		}
		switch p.Kind {
		case api.PredBetween:
			both, _ := yesOf(api.Ge, p.List[0]).And(yesOf(api.Le, p.List[1]))
			mustBe(t, brief(p), yes, len(l), both.Words())
		case api.PredIn:
			all := bits.New(len(l))
			for _, v := range p.List {
				all, _ = all.Or(yesOf(api.Eq, v))
			}
			mustBe(t, brief(p), yes, len(l), all.Words())
		}
	})
}

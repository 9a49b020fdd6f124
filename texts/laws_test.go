package texts_test

import (
	"slices"
	"testing"

	"colonnade/api"
	"colonnade/atom"
	"colonnade/bits"
	"colonnade/chunk"
	"colonnade/texts"
)

// lists are all lists, and many by chance, of lengths around which a byte or a word begins or ends.
func lists(seed uint64) [][]api.Value {
	r, out := byChance(seed), allLists()
	for _, n := range []int{1, 2, 3, 5, 8, 9, 17, 31, 63, 64, 65, 127, 128, 129, 200} {
		for range 8 {
			out = append(out, someList(r, n))
		}
	}
	return out
}

// eachAnswer hands on what Test answers of lists and atoms by chance, by every codec.
func eachAnswer(t *testing.T, seed uint64, f func(l []api.Value, p api.Pred, ch *chunk.Chunk, yes, maybe *bits.Set)) {
	t.Helper()
	r := byChance(seed)
	for _, l := range lists(seed) {
		chunks := chunksOf(t, withNulls, l)
		for range 60 {
			p := someAtom(r, l)
			for _, ch := range chunks {
				yes, maybe, e := texts.Test(ch, p)
				if e != api.OK {
					t.Fatalf("%s by %v, %s: %d", brief(l), ch.Codec(), brief(p), e)
				}
				f(l, p, ch, yes, maybe)
			}
		}
	}
}

// TestP20_2RowByRow: both sets are what layer 18's Test says of each of the chunk's values.
func TestP20_2RowByRow(t *testing.T) {
	eachAnswer(t, 10, func(l []api.Value, p api.Pred, ch *chunk.Chunk, yes, maybe *bits.Set) {
		if yes.Len() != len(l) || maybe.Len() != len(l) {
			t.Fatalf("%s by %v, %s: lengths %d and %d", brief(l), ch.Codec(), brief(p), yes.Len(), maybe.Len())
		}
		for i := range l {
			v, _ := ch.Value(i)
			truth := atom.Test(p, v)
			if v != l[i] || yes.Get(i) != (truth == api.Yes) || maybe.Get(i) != (truth == api.Maybe) {
				t.Fatalf("%s by %v, %s, row %d: %v, maybe %v; of %q layer 18 says %d", brief(l), ch.Codec(), brief(p), i, yes.Get(i), maybe.Get(i), v.Text, truth)
			}
		}
	})
}

// TestP20_3Codecs: of the same values the sets are the same, whatever the codec.
func TestP20_3Codecs(t *testing.T) {
	r := byChance(11)
	for _, l := range lists(11) {
		chunks := chunksOf(t, withNulls, l)
		for range 60 {
			p := someAtom(r, l)
			yes, maybe, _ := texts.Test(chunks[0], p)
			for _, ch := range chunks[1:] {
				y, m, e := texts.Test(ch, p)
				if e != api.OK || y.Len() != yes.Len() || m.Len() != maybe.Len() || !slices.Equal(y.Words(), yes.Words()) || !slices.Equal(m.Words(), maybe.Words()) {
					t.Fatalf("%s, %s by %v: %x, maybe %x, %d; by %v: %x, maybe %x", brief(l), brief(p), ch.Codec(), y.Words(), m.Words(), e, chunks[0].Codec(), yes.Words(), maybe.Words())
				}
			}
		}
	}
}

// TestP20_3Column: whether nulls may stand in the column, and what its name is, says nothing of the same texts.
func TestP20_3Column(t *testing.T) {
	r := byChance(12)
	for _, l := range denseLists() {
		with, without := chunksOf(t, withNulls, l), chunksOf(t, noNulls, l)
		named := withNulls
		named.Name = "other"
		others := chunksOf(t, named, l)
		for range 40 {
			p := someAtom(r, l)
			mustSay(t, slices.Concat(with, without), l, p)
			p.Column = "other"
			mustSay(t, others, l, p)
		}
	}
}

// TestP20_4Maybe: no row is in both sets; the second one is that of the nulls, and empty of PredNull.
func TestP20_4Maybe(t *testing.T) {
	eachAnswer(t, 13, func(l []api.Value, p api.Pred, ch *chunk.Chunk, yes, maybe *bits.Set) {
		both, e := yes.And(maybe)
		if e != api.OK || both.Count() != 0 {
			t.Fatalf("%s by %v, %s: %d rows in both, %d", brief(l), ch.Codec(), brief(p), both.Count(), e)
		}
		want := ch.Nulls()
		if p.Kind == api.PredNull {
			mustBe(t, "the nulls", yes, len(l), want.Words())
			want = bits.New(len(l))
		}
		mustBe(t, "maybe", maybe, len(l), want.Words())
	})
}

// TestP20_4Opposite: of an atom and its opposite each row that is not in the second set is in just one of the first.
func TestP20_4Opposite(t *testing.T) {
	asked := 0
	eachAnswer(t, 14, func(l []api.Value, p api.Pred, ch *chunk.Chunk, yes, maybe *bits.Set) {
		q, is := atom.Not(p)
		if !is {
			return
		}
		asked++
		no, maybeToo, e := texts.Test(ch, q)
		if e != api.OK {
			t.Fatalf("%s by %v, %s: %d", brief(l), ch.Codec(), brief(q), e)
		}
		mustBe(t, brief(q), maybeToo, len(l), maybe.Words())
		both, _ := yes.And(no)
		mustBe(t, brief(p)+" and its opposite", both, len(l), bits.New(len(l)).Words())
		either, _ := yes.Or(no)
		mustBe(t, brief(p)+" or its opposite", either, len(l), maybe.Not().Words())
	})
	if asked < 5000 {
		t.Errorf("%d opposites alone", asked)
	}
}

// TestP20_5Parts: what begins with a text is not below it, and begins so; what is between two is not below the one and not above the other.
func TestP20_5Parts(t *testing.T) {
	eachAnswer(t, 15, func(l []api.Value, p api.Pred, ch *chunk.Chunk, yes, _ *bits.Set) {
		yesOf := func(op int, v api.Value) *bits.Set {
			s, _, _ := texts.Test(ch, compared(op, v.Text))
			return s
		}
		switch p.Kind {
		case api.PredBegins:
			notBelow := yesOf(api.Ge, p.Value)
			for i, v := range l {
				if yes.Get(i) != (notBelow.Get(i) && startsWith(v.Text, p.Value.Text)) {
					t.Fatalf("%s by %v, %s, row %d: %v", brief(l), ch.Codec(), brief(p), i, yes.Get(i))
				}
			}
		case api.PredBetween:
			both, _ := yesOf(api.Ge, p.List[0]).And(yesOf(api.Le, p.List[1]))
			mustBe(t, brief(p), yes, len(l), both.Words())
		case api.PredIn:
			all := bits.New(len(l))
			for _, v := range p.List {
				all, _ = all.Or(yesOf(api.Eq, v))
			}
			mustBe(t, brief(p), yes, len(l), all.Words())
		}
	})
}

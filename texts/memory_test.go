package texts_test

import (
	"slices"
	"sync"
	"testing"

	"colonnade/api"
	"colonnade/bits"
	"colonnade/chunk"
	"colonnade/texts"
)

// spoilSet turns every number of a set.
func spoilSet(s *bits.Set) {
	for i := range s.Len() {
		s.Put(i, !s.Get(i))
	}
}

// memoryLists are lists with nulls, without them, of nulls alone, and none.
func memoryLists() [][]api.Value {
	return [][]api.Value{nil, words("ab"), {null}, {word("ab"), null, word("b"), word("ab")}, words("a", "a", "b"), slices.Repeat([]api.Value{word("ab"), word(""), null}, 50), slices.Repeat(words("a"), 70), make([]api.Value, 65)}
}

// memoryAtoms are few atoms of each Kind, such as say Yes of all texts and of none among them.
func memoryAtoms() []api.Pred {
	out := []api.Pred{isNull(), in(), in("a"), in("b", "ab", "b"), between("a", "ab"), between("", "z"), between("b", "a"), between("x", "y"), begins(""), begins("a"), begins("x")}
	for _, op := range ops() {
		out = append(out, compared(op, "ab"), compared(op, "aa"), compared(op, ""), compared(op, "\xff"))
	}
	return out
}

// TestP20_6SetsAreNew: whatever is put into one set, the other one of the answer, other answers and the chunk stay as they are.
func TestP20_6SetsAreNew(t *testing.T) {
	for _, l := range memoryLists() {
		for _, ch := range chunksOf(t, withNulls, l) {
			for _, p := range memoryAtoms() {
				wantYes, wantMaybe := read(p, l)
				yes, maybe, _ := texts.Test(ch, p)
				again, maybeAgain, _ := texts.Test(ch, p)
				spoilSet(yes)
				mustBe(t, "maybe behind a yes that was turned", maybe, len(l), wantMaybe)
				spoilSet(maybe)
				mustBe(t, "the other yes", again, len(l), wantYes)
				mustBe(t, "the other maybe", maybeAgain, len(l), wantMaybe)
				spoilSet(maybeAgain)
				mustBe(t, "yes behind a maybe that was turned", again, len(l), wantYes)
				if !slices.Equal(ch.Values(), l) {
					t.Fatalf("%s has become %s", brief(l), brief(ch.Values()))
				}
				mustSay(t, []*chunk.Chunk{ch}, l, p)
			}
		}
	}
}

// TestP20_6Unchanged: neither a list nor its spare room is changed, nor is what stands there looked at.
func TestP20_6Unchanged(t *testing.T) {
	for _, l := range memoryLists() {
		chunks := chunksOf(t, withNulls, l)
		for _, p := range slices.Concat(memoryAtoms(), []api.Pred{in("x", "b", "ab", "a", "x", ""), in(slices.Repeat([]string{"c", "ab", "aa"}, 40)...)}) {
			room := append(slices.Clone(p.List), word("ab"), word("b"), api.Value{Kind: 77, Text: "spare"})
			kids := []api.Pred{{Kind: 77}}
			was := slices.Clone(room)
			given := p
			given.List, given.Kids = room[:len(p.List)], kids[:0]
			mustSay(t, chunks, l, given)
			if !slices.Equal(room, was) || kids[0].Kind != 77 {
				t.Fatalf("%s: what was handed in has become %s", brief(p), brief(room))
			}
		}
	}
}

// TestP20_6Keys: Range changes neither keys nor their spare room, nor does it look at that.
func TestP20_6Keys(t *testing.T) {
	for _, keys := range rising() {
		room := append(slices.Clone(keys), "\xff\xff\xff\xff", "\xff\xff\xff\xff\xff")
		was := slices.Clone(room)
		for _, begin := range beginsAround(keys) {
			mustRange(t, room[:len(keys)], begin)
			if !slices.Equal(room, was) {
				t.Fatalf("%s have become %s", brief(was), brief(room))
			}
		}
		mixed := reversed(room)
		was = slices.Clone(mixed)
		texts.Range(mixed, "a")
		if !slices.Equal(mixed, was) {
			t.Fatalf("%s have become %s", brief(was), brief(mixed))
		}
	}
}

// TestP20_6Refused: a list that is refused stays as it is too.
func TestP20_6Refused(t *testing.T) {
	for _, ch := range faultyChunks(t) {
		for _, kind := range kinds() {
			for _, f := range faultsOf(kind) {
				p := faultless(kind)
				f.in(&p)
				was := slices.Clone(p.List)
				mustRefuse(t, ch, p, f.want)
				if !slices.Equal(p.List, was) {
					t.Fatalf("%s has become %s", brief(was), brief(p.List))
				}
			}
		}
	}
}

// TestP20_6NotKept: sets stay when the list is written over behind the call, and the next call sees the list as it is then.
func TestP20_6NotKept(t *testing.T) {
	l := []api.Value{word("ab"), null, word("b"), word("ab"), word("a")}
	for _, kind := range []int{api.PredIn, api.PredBetween} {
		for _, ch := range chunksOf(t, withNulls, l) {
			p := api.Pred{Kind: kind, Column: "t", List: words("ab", "ab")}
			yes, maybe, _ := texts.Test(ch, p)
			p.List[0], p.List[1] = word("b"), word("b")
			mustBe(t, "yes behind a list that was written over", yes, 5, []uint64{0b01001})
			mustBe(t, "maybe behind a list that was written over", maybe, 5, []uint64{0b00010})
			mustSay(t, []*chunk.Chunk{ch}, l, p)
			p.List[1] = null
			mustRefuse(t, ch, p, api.ErrValue)
		}
	}
}

// TestP20_6BesideOneAnother: nothing is kept from call to call, so many may ask one chunk at once.
func TestP20_6BesideOneAnother(t *testing.T) {
	l := slices.Repeat([]api.Value{word("ab"), word("b"), null, word("")}, 40)
	chunks, preds := chunksOf(t, withNulls, l), memoryAtoms()
	var wait sync.WaitGroup
	for range 8 {
		wait.Go(func() {
			for _, p := range preds {
				wantYes, wantMaybe := read(p, l)
				for _, ch := range chunks {
					yes, maybe, e := texts.Test(ch, p)
					if e != api.OK || !slices.Equal(yes.Words(), wantYes) || !slices.Equal(maybe.Words(), wantMaybe) {
						t.Errorf("%s by %v beside others: %d", brief(p), ch.Codec(), e)
					}
				}
			}
		})
	}
	wait.Wait()
}

package ints_test

import (
	"slices"
	"sync"
	"testing"

	"colonnade/api"
	"colonnade/bits"
	"colonnade/chunk"
	"colonnade/ints"
)

// spoilSet turns every number of a set.
func spoilSet(s *bits.Set) {
	for i := range s.Len() {
		s.Put(i, !s.Get(i))
	}
}

// memoryLists are lists with nulls, without them, of nulls alone, and none.
func memoryLists() [][]api.Value {
	return [][]api.Value{nil, nums(5), {null}, {num(5), null, num(7), num(5)}, nums(5, 5, 7), slices.Repeat([]api.Value{num(5), num(6), null}, 50), slices.Repeat(nums(5), 70), make([]api.Value, 65)}
}

// memoryAtoms are few atoms of each Kind, such as say Yes of all numbers and of none among them.
func memoryAtoms() []api.Pred {
	out := []api.Pred{isNull(), in(), in(5), in(7, 5, 7), between(5, 6), between(0, 99), between(9, 5), between(-2, -1)}
	for _, op := range ops() {
		out = append(out, compared(op, 5), compared(op, 6), compared(op, least), compared(op, greatest))
	}
	return out
}

// TestP19_5SetsAreNew: whatever is put into one set, the other one of the answer, other answers and the chunk stay as they are.
func TestP19_5SetsAreNew(t *testing.T) {
	for _, l := range memoryLists() {
		for _, ch := range chunksOf(t, withNulls, l, someWidths()) {
			for _, p := range memoryAtoms() {
				wantYes, wantUnknown := read(p, l)
				yes, unknown, _ := ints.Test(ch, p)
				again, unknownAgain, _ := ints.Test(ch, p)
				spoilSet(yes)
				mustBe(t, "unknown behind a yes that was turned", unknown, len(l), wantUnknown)
				spoilSet(unknown)
				mustBe(t, "the other yes", again, len(l), wantYes)
				mustBe(t, "the other unknown", unknownAgain, len(l), wantUnknown)
				spoilSet(unknownAgain)
				mustBe(t, "yes behind an unknown that was turned", again, len(l), wantYes)
				if !slices.Equal(ch.Values(), l) {
					t.Fatalf("%s has become %s", brief(l), brief(ch.Values()))
				}
				mustSay(t, []*chunk.Chunk{ch}, l, p)
			}
		}
	}
}

// TestP19_5Unchanged: neither a list nor its spare room is changed, nor is what stands there looked at.
func TestP19_5Unchanged(t *testing.T) {
	for _, l := range memoryLists() {
		chunks := chunksOf(t, withNulls, l, someWidths())
		for _, p := range slices.Concat(memoryAtoms(), []api.Pred{in(9, 7, 5, 3, 9, 1), in(slices.Repeat([]int64{8, 5, 6}, 40)...)}) {
			room := append(slices.Clone(p.List), num(5), num(7), api.Value{Kind: 77, Text: "spare"})
			kids := []api.Pred{{Kind: 77}}
			was := slices.Clone(room)
			given := p
			given.List, given.Kids = room[:len(p.List)], kids[:0]
			mustSay(t, chunks, l, given)
			if !slices.Equal(room, was) || kids[0].Kind != 77 {
				t.Fatalf("%s: what was handed in has become %s", brief(p), brief(room))
			}
		}
	}
}

// TestP19_5Refused: a list that is refused stays as it is too.
func TestP19_5Refused(t *testing.T) {
	for _, ch := range faultyChunks(t) {
		for _, kind := range kinds() {
			for _, f := range faultsOf(kind) {
				p := faultless(kind)
				f.in(&p)
				was := slices.Clone(p.List)
				mustRefuse(t, ch, p, f.want)
				if !slices.Equal(p.List, was) {
					t.Fatalf("%s has become %s", brief(was), brief(p.List))
				}
			}
		}
	}
}

// TestP19_5NotKept: sets stay when the list is written over behind the call, and the next call sees the list as it is then.
func TestP19_5NotKept(t *testing.T) {
	l := []api.Value{num(5), null, num(7), num(5), num(6)}
	chunks := chunksOf(t, withNulls, l, someWidths())
	for _, kind := range []int{api.PredIn, api.PredBetween} {
		for _, ch := range chunks {
			p := api.Pred{Kind: kind, Column: "n", List: nums(5, 5)}
			yes, unknown, _ := ints.Test(ch, p)
			p.List[0], p.List[1] = num(7), num(7)
			mustBe(t, "yes behind a list that was written over", yes, 5, []uint64{0b01001})
			mustBe(t, "unknown behind a list that was written over", unknown, 5, []uint64{0b00010})
			mustSay(t, []*chunk.Chunk{ch}, l, p)
			p.List[1] = null
			mustRefuse(t, ch, p, api.ErrValue)
		}
	}
}

// TestP19_5BesideOneAnother: nothing is kept from call to call, so many may ask one chunk at once.
func TestP19_5BesideOneAnother(t *testing.T) {
	l := slices.Repeat([]api.Value{num(5), num(6), null, num(-7)}, 40)
	chunks, preds := chunksOf(t, withNulls, l, someWidths()), memoryAtoms()
	var wait sync.WaitGroup
	for range 8 {
		wait.Go(func() {
			for _, p := range preds {
				wantYes, wantUnknown := read(p, l)
				for _, ch := range chunks {
					yes, unknown, e := ints.Test(ch, p)
					if e != api.OK || !slices.Equal(yes.Words(), wantYes) || !slices.Equal(unknown.Words(), wantUnknown) {
						t.Errorf("%s by %v beside others: %d", brief(p), ch.Codec(), e)
					}
				}
			}
		})
	}
	wait.Wait()
}

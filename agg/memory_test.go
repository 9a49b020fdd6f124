package agg_test

import (
	"slices"
	"sync"
	"testing"

	"colonnade/agg"
	"colonnade/api"
	"colonnade/bits"
	"colonnade/chunk"
	"colonnade/sel"
	"colonnade/wide"
)

// memorySamples are few lists with nulls, without them, of nulls alone, and none.
func memorySamples() []sample {
	return []sample{
		{numbers, nil}, {numbers, []api.Value{null}}, {numbers, []api.Value{num(5), null, num(7), num(5)}}, {numbers, make([]api.Value, 65)}, {allNumbers, upTo(-5, 3, 130)},
		{numbers, slices.Repeat([]api.Value{num(4), null, num(4), num(greatest)}, 40)}, {textsOrNone, slices.Repeat([]api.Value{word("ab"), word("ab"), null, word("")}, 40)}, {allTexts, words("b", "a", "a")},
	}
}

// TestP22_7Unchanged: neither the chunk nor the selection is turned by a Fold, and the same is told again.
func TestP22_7Unchanged(t *testing.T) {
	for _, x := range memorySamples() {
		for _, ch := range chunksOf(t, x.col, x.list, 64) {
			body := ch.Body()
			for _, s := range selections(t, len(x.list)) {
				rows := s.List()
				mustFold(t, []*chunk.Chunk{ch, ch}, x.list, s)
				if !slices.Equal(s.List(), rows) || s.Len() != len(x.list) {
					t.Fatalf("the rows %s have become %s", brief(rows), brief(s.List()))
				}
			}
			if !slices.Equal(ch.Values(), x.list) || brief(ch.Body()) != brief(body) {
				t.Fatalf("%s has become %s", brief(x.list), brief(ch.Values()))
			}
		}
	}
}

// TestP22_7NotKept: a Dense that is turned behind a Fold does not turn the state, and the next Fold sees it as it is then.
func TestP22_7NotKept(t *testing.T) {
	for _, x := range memorySamples() {
		n := len(x.list)
		if n == 0 {
			continue
		}
		for _, ch := range chunksOf(t, x.col, x.list, 64) {
			s := sel.Whole(n).(sel.Dense)
			was := folded(t, ch, s)
			for i := range n {
				s.Put(i, false)
				if i%7 == 0 || i == n-1 {
					mustFold(t, []*chunk.Chunk{ch}, x.list, s)
				}
			}
			if was != read(x.list, sel.Whole(n).List()) {
				t.Fatalf("the state of %s has become %s", brief(x.list), brief(was))
			}
		}
	}
}

// TestP22_7Set: a set of which a selection was made, and the sets that it tells, are not turned.
func TestP22_7Set(t *testing.T) {
	l := []api.Value{num(5), null, num(7), num(5)}
	set := bits.Of(true, true, false, true)
	s := sel.Make(set)
	for _, ch := range chunksOf(t, numbers, l, 64) {
		nulls := ch.Nulls()
		mustFold(t, []*chunk.Chunk{ch}, l, s)
		if set.Words()[0] != 0b1011 || s.Bits().Words()[0] != 0b1011 || nulls.Words()[0] != 0b0010 || ch.Nulls().Words()[0] != 0b0010 {
			t.Errorf("by %v: %x, %x, %x, %x", ch.Codec(), set.Words(), s.Bits().Words(), nulls.Words(), ch.Nulls().Words())
		}
	}
}

// TestP22_7Merge: neither a list nor its spare room is changed, nor is what stands there looked at, nor is it kept.
func TestP22_7Merge(t *testing.T) {
	room := []agg.State{{Rows: 1, Count: 1, Sum: wide.Of(5), Min: num(5), Max: num(5)}, {Rows: 2, Min: api.Value{Kind: 77}}, {Rows: 3, Count: 2, Sum: wide.Of(-4), Min: num(-3), Max: num(-1)}, {Rows: 100, Count: 50, Sum: wide.Of(least), Min: num(least), Max: num(greatest)}, {Rows: 7}}
	was := slices.Clone(room)
	for n := range room {
		got := agg.Merge(room[:n]...)
		want := merged(was[:n])
		if got != want || !slices.Equal(room, was) {
			t.Fatalf("Merge of the first %d: %v, and they are %v; want %v", n, got, room, want)
		}
		if n > 0 {
			room[0] = agg.State{Rows: 9, Min: num(-99), Max: num(99)}
			if got != want {
				t.Fatalf("written over: %v", got)
			}
			room[0] = was[0]
		}
	}
}

// TestP22_7BesideOneAnother: nothing is kept from call to call, so many may fold one chunk at once.
func TestP22_7BesideOneAnother(t *testing.T) {
	var wait sync.WaitGroup
	for _, x := range memorySamples() {
		all, chosen := chunksOf(t, x.col, x.list, 64), selections(t, len(x.list))
		for range 4 {
			wait.Go(func() {
				for _, s := range chosen {
					want := read(x.list, s.List())
					for _, ch := range all {
						if got, e := agg.Fold(ch, s); got != want || e != api.OK {
							t.Errorf("%s by %v beside others: %s, %d", brief(x.list), ch.Codec(), brief(got), e)
						}
					}
				}
			})
		}
	}
	wait.Wait()
}

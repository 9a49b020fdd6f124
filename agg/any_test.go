package agg_test

import (
	"slices"
	"testing"

	"colonnade/agg"
	"colonnade/api"
	"colonnade/chunk"
	"colonnade/sel"
	"colonnade/wide"
)

// TestW0Fold: whatever the chunk and the selection, Fold answers, and beside an error nothing.
func TestW0Fold(t *testing.T) {
	r := byChance(7)
	chunks, chosen := []*chunk.Chunk{nil, new(chunk.Chunk)}, notThere()
	for _, x := range memorySamples() {
		chunks = append(chunks, chunksOf(t, x.col, x.list, someWidths()...)...)
		chosen = append(chosen, selections(t, len(x.list))...)
	}
	folds := 0
	for range 20000 {
		ch, s := oneOf(r, chunks), oneOf(r, chosen)
		switch {
		case ch.Nulls() == nil || sel.Same(s, nil):
			mustRefuse(t, ch, s, api.ErrNil)
		case ch.Rows() != s.Len():
			mustRefuse(t, ch, s, api.ErrSize)
		default:
			folds++
			mustFold(t, []*chunk.Chunk{ch}, ch.Values(), s)
		}
	}
	if folds < 1000 {
		t.Errorf("%d folds alone", folds)
	}
}

// TestW0Any: whatever the states and the kind, Merge and Answer answer.
func TestW0Any(t *testing.T) {
	r := byChance(8)
	values := slices.Concat(present(), absent())
	for range 20000 {
		s := agg.State{Rows: oneOf(r, ints()), Count: oneOf(r, ints()), Sum: oneOf(r, sums()), Min: oneOf(r, values), Max: oneOf(r, values)}
		if r.IntN(2) == 0 {
			s.Sum = wide.Wide{Hi: int64(r.Uint64()) >> r.IntN(64), Lo: r.Uint64()}
		}
		mustMerge(t, s, s)
		mustAnswer(t, oneOf(r, ints()), s)
		mustAnswer(t, r.IntN(10), s)
		mustAnswer(t, oneOf(r, kinds()), agg.Merge(s, s))
	}
}

package chunk_test

import (
	"testing"

	"colonnade/api"
	"colonnade/bits"
	"colonnade/chunk"
	"colonnade/runs"
	"colonnade/sel"
)

// The chapter's columns.
var (
	colA = api.Column{Name: "a", Type: api.Int, Null: false}
	colB = api.Column{Name: "b", Type: api.Int, Null: true}
	colT = api.Column{Name: "t", Type: api.Text, Null: true}
)

// TestExamples: the chapter's table.
func TestExamples(t *testing.T) {
	n, five := api.Value{}, one(5)
	mustEncode(t, colB, []api.Value{five, n, five}, api.Codec{Kind: api.Runs}, []byte{3, 0, 1, 2, 1, 2, 10})
	mustEncode(t, colA, numbers(5, 5), api.Codec{Kind: api.Frame}, []byte{4, 0, 0, 5, 0, 0, 0, 0, 0, 0, 0})
	mustNotEncode(t, colA, []api.Value{five, n}, api.Codec{Kind: api.Plain}, api.ErrValue)
	mustNotEncode(t, colA, numbers(5), api.Codec{Kind: api.Plain, Width: 3}, api.ErrCodec)
	mustNotEncode(t, colT, words("x"), api.Codec{Kind: api.Frame, Width: 8}, api.ErrCodec)
	mustNotEncode(t, colA, numbers(5, 6), api.Codec{Kind: api.Frame}, api.ErrUnfit)
	mustNotEncode(t, colA, numbers(-1), api.Codec{Kind: api.Packed, Width: 64}, api.ErrUnfit)
	mustEncode(t, colT, []api.Value{n, n}, api.Codec{Kind: api.Plain}, []byte{1, 0, 2, 3, 0, 0, 0, 0})

	mustFit(t, colA, numbers(5, 6), []api.Codec{{Kind: api.Plain}, {Kind: api.Dict}, {Kind: api.Runs}, {Kind: api.Frame, Width: 1}, {Kind: api.Packed, Width: 3}})
	mustBest(t, colA, numbers(5, 6), api.Codec{Kind: api.Packed, Width: 3})
	if b, _ := chunk.Encode(colA, numbers(5, 6), api.Codec{Kind: api.Packed, Width: 3}); len(b) != 4 {
		t.Errorf("the best form has %d bytes", len(b))
	}
	mustFit(t, colA, numbers(-1), []api.Codec{{Kind: api.Plain}, {Kind: api.Dict}, {Kind: api.Runs}, {Kind: api.Frame}})
	mustFit(t, colA, words("x"), nil)

	form := []byte{3, 0, 1, 2, 1, 2, 10}
	c := mustOpen(t, colB, 3, form)
	mustTell(t, c, colB, []api.Value{five, n, five}, api.Codec{Kind: api.Runs})
	if c.Count() != 2 || !sameSet(c.Nulls(), bits.Of(false, true, false)) || c.Codec() != (api.Codec{Kind: api.Runs}) {
		t.Error("Count, Nulls or Codec")
	}
	mustBody(t, c, chunk.IntRuns{Runs: []runs.Run[int64]{{Value: 5, N: 2}}})
	mustValue(t, c, 1, n, true)
	mustValue(t, c, 3, n, false)
	last, _ := sel.At(3, []int{1, 2})
	mustGather(t, c, last, []api.Value{n, five})

	mustNotOpen(t, colB, 4, form, api.ErrChunk)
	mustNotOpen(t, colA, 3, form, api.ErrChunk)
	mustNotOpen(t, colB, 3, []byte{3, 0, 1, 3, 1, 2, 10}, api.ErrChunk)
	mustNotOpen(t, colB, 3, []byte{3, 1, 1, 2, 1, 2, 10}, api.ErrChunk)
	mustTell(t, mustOpen(t, colB, 0, []byte{1, 0, 0}), colB, nil, api.Codec{Kind: api.Plain})
	mustTell(t, mustOpen(t, colT, 0, []byte{1, 0, 0, 0, 0, 0, 0}), colT, nil, api.Codec{Kind: api.Plain})

	mustSpread(t, bits.Of(false, true), bits.Of(false, true, false), bits.Of(false, false, true))
	mustNotSpread(t, bits.Of(false), bits.Of(false, true, false), api.ErrSize)
}

package agg

import (
	mathbits "math/bits"

	"colonnade/api"
	"colonnade/bits"
	"colonnade/chunk"
	"colonnade/frame"
	"colonnade/lanes"
	"colonnade/sel"
	"colonnade/value"
	"colonnade/wide"
)

// Fold: P22.2.
func Fold(ch *chunk.Chunk, s sel.Sel) (State, api.Errno) {
	nulls := ch.Nulls()
	// A selection that is not there is the same as nil to layer 4, whatever form it would have had.
	if nulls == nil || sel.Same(s, nil) {
		return None(), api.ErrNil
	}
	if s.Len() != nulls.Len() {
		return None(), api.ErrSize
	}
	state := foldBody(ch.Body(), dense(s, nulls))
	state.Rows = s.Count()
	return state, api.OK
}

// dense is which of the values that are not null stand in chosen rows, by their numbers among these values.
func dense(s sel.Sel, nulls *bits.Set) *bits.Set {
	missing := nulls.Count()
	if missing == 0 {
		return s.Bits()
	}
	chosen, nullsAhead := bits.New(nulls.Len()-missing), risingRank(nulls)
	for row := range s.All() {
		if !nulls.Get(row) {
			chosen.Put(row-nullsAhead(row), true)
		}
	}
	return chosen
}

// foldBody is the state of those of a body's values that are chosen, but for the Rows.
func foldBody(b chunk.Body, chosen *bits.Set) State {
	switch x := b.(type) {
	case chunk.IntPlain:
		return ofInts(each(x.Values, chosen))
	case chunk.IntDict:
		return ofInts(byKey(x.Keys, x.Codes, x.Width, chosen))
	case chunk.IntRuns:
		return ofInts(byRun(x.Runs, chosen))
	case chunk.IntFrame:
		return ofFrame(x, chosen)
	case chunk.TextPlain:
		return ofTexts(each(x.Values, chosen))
	case chunk.TextDict:
		return ofTexts(byKey(x.Keys, x.Codes, x.Width, chosen))
	case chunk.TextRuns:
		return ofTexts(byRun(x.Runs, chosen))
	}
	return None()
}

// ofFrame leaves a frame that is chosen whole to layer 3, which goes through the lanes a word at a time.
func ofFrame(x chunk.IntFrame, chosen *bits.Set) State {
	if chosen.Count() < x.N {
		return ofInts(byLane(x, chosen))
	}
	least, greatest, _ := lanes.Ends(x.Lanes, x.Width, x.N)
	codes := ends[uint64]{count: x.N, least: least, greatest: greatest}
	s := codes.state(func(code uint64) api.Value { return value.Int(frame.Lift(x.Base, code)) })
	hi, lo, _ := lanes.Sum(x.Lanes, x.Width, x.N)
	s.Sum = wide.Times(x.Base, x.N).Plus(wide.Wide{Hi: int64(hi), Lo: lo})
	return s
}

// risingRank is the Rank of numbers that are asked for rising, up to the set's length: what lies ahead of one is not counted again for the next.
func risingRank(s *bits.Set) func(i int) int {
	const wordBits = 64
	// A word without numbers stands behind the last one, for a length that fills it.
	words, at, passed := append(s.Words(), 0), 0, 0
	return func(i int) int {
		for ; at < i/wordBits; at++ {
			passed += mathbits.OnesCount64(words[at])
		}
		below := words[at] & (1<<uint(i%wordBits) - 1)
		return passed + mathbits.OnesCount64(below)
	}
}

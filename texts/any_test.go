package texts_test

import (
	"math/rand/v2"
	"testing"

	"colonnade/api"
	"colonnade/atom"
	"colonnade/chunk"
	"colonnade/texts"
)

// someValue is of any sort, most often a text.
func someValue(r *rand.Rand) api.Value {
	if r.IntN(8) == 0 {
		return oneOf(r, badValues())
	}
	return word(someText(r))
}

// somePred is of any Kind, its fields by chance.
func somePred(r *rand.Rand) api.Pred {
	p := api.Pred{Kind: r.IntN(10) - 1, Column: "t"}
	if p.Kind == api.PredCompare || r.IntN(6) == 0 {
		p.Op = r.IntN(9) - 1
	}
	if p.Kind == api.PredCompare || p.Kind == api.PredBegins || r.IntN(6) == 0 {
		p.Value = someValue(r)
	}
	if p.Kind == api.PredIn || p.Kind == api.PredBetween || r.IntN(6) == 0 {
		for range 2 + r.IntN(2)*(r.IntN(5)-2) {
			p.List = append(p.List, someValue(r))
		}
	}
	switch r.IntN(20) {
	case 0:
		p.Column = "u"
	case 1:
		p.Kids = []api.Pred{somePred(r)}
	case 2:
		p.Kind = r.Int() - r.Int()
	}
	return p
}

// TestW0Test: whatever the chunk and the predicate, Test answers, and beside an error nothing.
func TestW0Test(t *testing.T) {
	r := byChance(20)
	numbers := opened(t, ofNumbers, []api.Value{num(5), null}, api.Dict)
	l := []api.Value{word("ab"), null, word("b\xff"), word("ab"), word(""), word("\x00a")}
	chunks := append(chunksOf(t, withNulls, l), nil, new(chunk.Chunk), numbers)
	answered := 0
	for range 30000 {
		p, ch := somePred(r), oneOf(r, chunks)
		e := atom.Check([]api.Column{withNulls}, p)
		switch {
		case ch.Rows() == 0:
			mustRefuse(t, ch, p, api.ErrNil)
		case ch == numbers:
			mustRefuse(t, ch, p, api.ErrOp)
		case e != api.OK:
			mustRefuse(t, ch, p, e)
		default:
			answered++
			mustSay(t, []*chunk.Chunk{ch}, l, p)
		}
	}
	if answered < 3000 {
		t.Errorf("%d answers alone", answered)
	}
}

// TestW0Range: whatever the keys, Range answers.
func TestW0Range(t *testing.T) {
	r := byChance(21)
	for range 20000 {
		keys := make([]string, r.IntN(12))
		for i := range keys {
			keys[i] = someText(r)
		}
		texts.Range(keys, someText(r))
	}
}

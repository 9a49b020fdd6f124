package ints_test

import (
	"math"
	"math/rand/v2"
	"testing"

	"colonnade/api"
	"colonnade/atom"
	"colonnade/chunk"
	"colonnade/ints"
)

// someValue is of any sort, most often a number.
func someValue(r *rand.Rand) api.Value {
	if r.IntN(8) == 0 {
		l := badValues()
		return l[r.IntN(len(l))]
	}
	return num(int64(r.IntN(9)))
}

// somePred is of any Kind, its fields by chance.
func somePred(r *rand.Rand) api.Pred {
	p := api.Pred{Kind: r.IntN(10) - 1, Column: "n"}
	if p.Kind == api.PredCompare || r.IntN(6) == 0 {
		p.Op = r.IntN(9) - 1
	}
	if p.Kind == api.PredCompare || r.IntN(6) == 0 {
		p.Value = someValue(r)
	}
	if p.Kind == api.PredIn || p.Kind == api.PredBetween || r.IntN(6) == 0 {
		for range 2 + r.IntN(2)*(r.IntN(5)-2) {
			p.List = append(p.List, someValue(r))
		}
	}
	switch r.IntN(20) {
	case 0:
		p.Column = "m"
	case 1:
		p.Kids = []api.Pred{somePred(r)}
	case 2:
		p.Kind = r.Int() - r.Int()
	}
	return p
}

// TestW0Test: whatever the chunk and the predicate, Test answers, and beside an error nothing.
func TestW0Test(t *testing.T) {
	r := byChance(20)
	texts, _ := opened(t, ofTexts, []api.Value{word("a"), null}, api.Codec{Kind: api.Dict})
	l := []api.Value{num(5), null, num(7), num(5), num(0)}
	chunks := append(chunksOf(t, withNulls, l, someWidths()), nil, new(chunk.Chunk), texts)
	answered := 0
	for range 40000 {
		p, ch := somePred(r), chunks[r.IntN(len(chunks))]
		e := atom.Check([]api.Column{withNulls}, p)
		switch {
		case ch.Rows() == 0:
			mustRefuse(t, ch, p, api.ErrNil)
		case ch == texts:
			mustRefuse(t, ch, p, api.ErrOp)
		case e != api.OK:
			mustRefuse(t, ch, p, e)
		default:
			answered++
			mustSay(t, []*chunk.Chunk{ch}, l, p)
		}
	}
	if answered < 3000 {
		t.Errorf("%d answers alone", answered)
	}
}

// TestW0ToFrame: whatever the numbers, ToFrame answers: of all, of none or a code, or nothing, if there is no such Op or frame.
func TestW0ToFrame(t *testing.T) {
	r := byChance(21)
	ends := []int{math.MinInt, math.MinInt + 1, -65, -64, -1, 0, 1, 3, 6, 7, 63, 64, 65, 128, math.MaxInt}
	for range 100000 {
		op, width := ends[r.IntN(len(ends))], ends[r.IntN(len(ends))]
		c, base := int64(ends[r.IntN(len(ends))]), int64(ends[r.IntN(len(ends))])
		to, v, all, none := ints.ToFrame(op, c, base, width)
		is := op >= 1 && op <= 6 && width >= 0 && width <= 64
		if is == (to == 0 && !all && !none) || all && none || (all || none) && (to != 0 || v != 0) || to != 0 && to != op {
			t.Fatalf("ToFrame(%d, %d, %d, %d): %d, %d, %v, %v", op, c, base, width, to, v, all, none)
		}
	}
}

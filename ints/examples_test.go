package ints_test

import (
	"slices"
	"testing"

	"colonnade/api"
	"colonnade/ints"
)

// TestExamples: the chapter's table.
func TestExamples(t *testing.T) {
	l := []api.Value{num(5), null, num(7), num(5)}
	chunks := chunksOf(t, withNulls, l, everyWidth())
	if len(chunks) < 100 {
		t.Fatalf("%d chunks alone", len(chunks))
	}
	for _, x := range []struct {
		p            api.Pred
		yes, unknown uint64
	}{
		{compared(api.Eq, 5), 0b1001, 0b10},
		{compared(api.Lt, 6), 0b1001, 0b10},
		{compared(api.Ne, 7), 0b1001, 0b10},
		{in(), 0, 0b10},
		{in(7, 9), 0b100, 0b10},
		{between(9, 5), 0, 0b10},
		{between(5, 6), 0b1001, 0b10},
		{isNull(), 0b10, 0},
	} {
		for _, ch := range chunks {
			yes, unknown, e := ints.Test(ch, x.p)
			if e != api.OK {
				t.Fatalf("%s by %v: %d", brief(x.p), ch.Codec(), e)
			}
			mustBe(t, brief(x.p), yes, 4, []uint64{x.yes})
			mustBe(t, brief(x.p), unknown, 4, []uint64{x.unknown})
		}
	}
	other, text := compared(api.Eq, 5), compared(api.Eq, 5)
	other.Column, text.Value = "m", word("a")
	for _, ch := range chunks {
		mustRefuse(t, ch, other, api.ErrColumn)
		mustRefuse(t, ch, text, api.ErrValue)
		mustRefuse(t, ch, api.Pred{Kind: api.PredBegins, Column: "n", Value: word("a")}, api.ErrOp)
		mustRefuse(t, ch, api.Pred{}, api.ErrOp)
	}
	mustRefuse(t, nil, compared(api.Eq, 5), api.ErrNil)
}

// TestExamplesToFrame: the chapter's rows of ToFrame.
func TestExamplesToFrame(t *testing.T) {
	for _, x := range []struct {
		op      int
		c, base int64
		width   int
		want    framed
	}{
		{api.Lt, 105, 100, 3, framed{to: api.Lt, v: 5}},
		{api.Lt, 108, 100, 3, framed{all: true}},
		{api.Lt, 100, 100, 3, framed{none: true}},
		{api.Ge, 99, 100, 3, framed{all: true}},
		{api.Eq, 107, 100, 3, framed{to: api.Eq, v: 7}},
		{api.Eq, 108, 100, 3, framed{none: true}},
		{api.Ne, 99, 100, 3, framed{all: true}},
		{api.Eq, 100, 100, 0, framed{all: true}},
		{api.Le, greatest, least, 64, framed{all: true}},
		{api.Gt, greatest - 1, greatest - 1, 64, framed{to: api.Gt}},
		{api.Lt, 0, least, 64, framed{to: api.Lt, v: 1 << 63}},
		{0, 1, 0, 3, framed{}},
		{api.Eq, 1, 0, 65, framed{}},
	} {
		mustFrame(t, x.op, x.c, x.base, x.width, x.want)
	}
}

// TestExamplesColumn: a column without nulls tells the same of the same numbers, and nothing is unknown.
func TestExamplesColumn(t *testing.T) {
	l := nums(5, 7, 5)
	for _, p := range slices.Concat(atomsFor(l), []api.Pred{in(7, 9), between(5, 6)}) {
		mustSay(t, chunksOf(t, noNulls, l, someWidths()), l, p)
	}
}

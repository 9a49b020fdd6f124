package agg_test

import (
	"testing"

	"colonnade/agg"
	"colonnade/api"
	"colonnade/sel"
	"colonnade/wide"
)

// exampleStates are the states of the chapter's table: of all rows, and of the row 1 alone.
func exampleStates() (all, one agg.State) {
	return agg.State{Rows: 4, Count: 3, Sum: wide.Of(17), Min: num(5), Max: num(7)}, agg.State{Rows: 1}
}

// TestExamplesFold: the chapter's rows of Fold.
func TestExamplesFold(t *testing.T) {
	l := []api.Value{num(5), null, num(7), num(5)}
	all, one := exampleStates()
	row, _ := sel.At(4, []int{1})
	for _, ch := range chunksOf(t, numbers, l, everyWidth()...) {
		for i, x := range []struct {
			s    sel.Sel
			want agg.State
			e    api.Errno
		}{{sel.Whole(4), all, api.OK}, {row, one, api.OK}, {sel.None(4), agg.None(), api.OK}, {sel.Whole(3), agg.State{}, api.ErrSize}} {
			if got, e := agg.Fold(ch, x.s); got != x.want || e != x.e {
				t.Errorf("by %v, row %d: %v, %d; want %v, %d", ch.Codec(), i, got, e, x.want, x.e)
			}
		}
	}
	mustRefuse(t, nil, sel.Whole(4), api.ErrNil)
}

// TestExamplesMerge: the chapter's row of Merge.
func TestExamplesMerge(t *testing.T) {
	all, one := exampleStates()
	if got := agg.Merge(); got != agg.None() {
		t.Errorf("Merge() = %v", got)
	}
	if got := agg.Merge(all, one); got != (agg.State{Rows: 5, Count: 3, Sum: wide.Of(17), Min: num(5), Max: num(7)}) {
		t.Errorf("Merge of two = %v", got)
	}
}

// TestExamplesAnswer: the chapter's rows of Answer.
func TestExamplesAnswer(t *testing.T) {
	all, _ := exampleStates()
	big := agg.State{Count: 2, Sum: wide.Wide{Lo: 1 << 63}}
	for _, x := range []struct {
		kind int
		s    agg.State
		want api.Value
		e    api.Errno
	}{
		{api.ItemRows, all, num(4), api.OK}, {api.ItemCount, all, num(3), api.OK}, {api.ItemSum, all, num(17), api.OK},
		{api.ItemMin, all, num(5), api.OK}, {api.ItemMax, all, num(7), api.OK}, {api.ItemMean, all, real(5.666666666666667), api.OK},
		{api.ItemSum, agg.None(), null, api.OK}, {api.ItemMean, agg.None(), null, api.OK}, {api.ItemRows, agg.None(), num(0), api.OK}, {api.ItemColumn, agg.None(), null, api.ErrArg},
		{api.ItemSum, big, null, api.ErrOverflow}, {api.ItemMean, big, real(1 << 62), api.OK},
	} {
		if got, e := agg.Answer(x.kind, x.s); got != x.want || e != x.e {
			t.Errorf("Answer(%d, %v) = %v, %d; want %v, %d", x.kind, x.s, got, e, x.want, x.e)
		}
	}
}

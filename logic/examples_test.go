package logic_test

import (
	"slices"
	"testing"

	"colonnade/api"
	"colonnade/logic"
)

// TestExamples: the chapter's table.
func TestExamples(t *testing.T) {
	im := exampleTable(t).im
	a5, a9 := compared("a", api.Eq, num(5)), compared("a", api.Eq, num(9))
	bIs := func(s string) api.Pred { return compared("b", api.Eq, word(s)) }
	for _, x := range []struct {
		p                    api.Pred
		yes, unknown, opened []int
	}{
		{all, []int{0, 1, 2}, nil, nil},
		{a5, []int{0}, []int{1}, []int{0}},
		{not(a5), []int{2}, []int{1}, []int{0}},
		{and(a5, bIs("y")), nil, []int{1}, []int{0, 1}},
		{and(a9, bIs("x")), nil, []int{}, []int{0, 1}},
		{and(bIs("z"), a9), nil, nil, []int{1}},
		{or(isNull("a"), bIs("x")), []int{0, 1, 2}, nil, []int{0, 1}},
		{or(a5, not(a5)), []int{0, 2}, []int{1}, []int{0}},
		{or(compared("b", api.Ne, word("q")), a5), []int{0, 1, 2}, nil, []int{1}},
	} {
		yes, unknown, opened, e := logic.Where(im, 0, x.p)
		if e != api.OK || yes.Len() != 3 || unknown.Len() != 3 || !slices.Equal(slices.Collect(yes.All()), x.yes) || !slices.Equal(slices.Collect(unknown.All()), x.unknown) || !slices.Equal(opened, x.opened) {
			t.Errorf("%s: %v, %v, %v, %d", brief(x.p), slices.Collect(yes.All()), slices.Collect(unknown.All()), opened, e)
		}
	}
	mustRefuse(t, im, 1, a5, api.ErrArg)
	mustRefuse(t, im, -1, a5, api.ErrArg)
	mustRefuse(t, im, 0, compared("c", api.Eq, num(5)), api.ErrQuery)
	mustRefuse(t, im, 0, compared("a", api.Eq, word("x")), api.ErrQuery)
	mustRefuse(t, im, 0, and(a5), api.ErrQuery)
	mustRefuse(t, nil, 0, a5, api.ErrNil)
}

package atom_test

import (
	"slices"
	"testing"

	"colonnade/api"
)

// TestExamples: the chapter's table.
func TestExamples(t *testing.T) {
	cols := twoColumns()
	mustCheck(t, cols, compared("a", api.Lt, num(5)), api.OK)
	mustCheck(t, cols, begins("t", word("x")), api.OK)
	mustCheck(t, cols, begins("a", word("x")), api.ErrOp)
	mustCheck(t, cols, begins("z", word("x")), api.ErrColumn)
	mustCheck(t, cols, compared("a", 7, num(5)), api.ErrOp)
	mustCheck(t, cols, between("a", nums(1, 2, 3)...), api.ErrArg)
	mustCheck(t, cols, between("z", num(1)), api.ErrArg)
	mustCheck(t, cols, compared("z", api.Eq, num(1)), api.ErrColumn)
	mustCheck(t, cols, compared("a", api.Eq, word("x")), api.ErrValue)
	mustCheck(t, cols, compared("a", api.Eq, null), api.ErrValue)
	mustCheck(t, cols, in("a"), api.OK)
	mustCheck(t, cols, in("a", slices.Repeat(words("x"), 1025)...), api.ErrLarge)
	mustCheck(t, cols, api.Pred{Kind: api.PredNull, Column: "a", Op: 1}, api.ErrArg)
	mustCheck(t, cols, api.Pred{Kind: api.PredCompare, Column: "a", Op: api.Eq, Value: num(5), Kids: []api.Pred{{}}}, api.ErrArg)
	mustCheck(t, cols, api.Pred{Kind: api.PredAll}, api.ErrOp)

	less := compared("a", api.Lt, num(5))
	mustSay(t, less, num(4), api.Yes)
	mustSay(t, less, num(5), api.No)
	mustSay(t, less, null, api.Maybe)
	mustSay(t, less, word("x"), api.No)
	mustSay(t, in("t", words("a", "b")...), word("b"), api.Yes)
	mustSay(t, in("t"), null, api.Maybe)
	mustSay(t, isNull("t"), null, api.Yes)
	mustSay(t, isNull("t"), word(""), api.No)
	mustSay(t, between("t", words("b", "a")...), word("a"), api.No)
	mustSay(t, begins("t", word("")), word("q"), api.Yes)
	mustSay(t, begins("t", word("qu")), word("q"), api.No)

	mustNot(t, less, compared("a", api.Ge, num(5)), true)
	mustNot(t, isNull("t"), api.Pred{}, false)
	mustBound(t, compared("a", api.Le, num(5)), null, num(5), true)
	mustBound(t, in("a", nums(7, 3)...), num(3), num(7), true)
	mustNotBound(t, in("a"))
	mustNotBound(t, compared("a", api.Ne, num(5)))
	mustBound(t, begins("t", word("x")), word("x"), null, true)
}

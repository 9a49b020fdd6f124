package query_test

import (
	"testing"

	"colonnade/api"
)

// TestExamplesCheck: the chapter's table.
func TestExamplesCheck(t *testing.T) {
	cols := twoColumns()
	mustCheck(t, cols, api.Query{Items: []api.Item{column("a"), column("t")}, Where: api.Pred{Kind: api.PredAll}, Limit: -1}, api.OK)
	mustCheck(t, cols, asking(), api.ErrQuery)
	mustCheck(t, cols, asking(column("a"), rows), api.ErrQuery)
	mustCheck(t, cols, asking(sum("t")), api.ErrQuery)
	mustCheck(t, cols, api.Query{Items: []api.Item{column("a")}, Group: []string{"t"}, Limit: -1}, api.ErrQuery)
	mustCheck(t, cols, api.Query{Items: []api.Item{column("a")}, Limit: -2}, api.ErrQuery)
	mustCheck(t, cols, api.Query{Items: []api.Item{column("a")}, Order: []api.Key{{Item: 1}}, Limit: -1}, api.ErrQuery)
	mustCheck(t, cols, api.Query{Items: []api.Item{column("t"), sum("a")}, Group: []string{"t"}, Limit: -1}, api.OK)
	mustCheck(t, cols, api.Query{Items: []api.Item{column("t"), sum("a")}, Group: []string{"t", "t"}, Limit: -1}, api.ErrQuery)
	mustCheck(t, cols, api.Query{Items: []api.Item{sum("a")}, Group: []string{"x"}, Limit: -1}, api.ErrQuery)
	mustCheck(t, nil, asking(column("a")), api.ErrSchema)
}

// TestExamplesPred: the chapter's table.
func TestExamplesPred(t *testing.T) {
	cols := twoColumns()
	mustPred(t, cols, lessThree(), api.OK)
	mustPred(t, cols, compared("a", api.Lt, word("x")), api.ErrQuery)
	mustPred(t, cols, and(lessThree()), api.ErrQuery)
	mustPred(t, cols, and(lessThree(), all), api.OK)
	mustPred(t, cols, nots(65, lessThree()), api.ErrQuery)
	mustTruth(t, cols, or(lessThree(), not(isNull("a"))), list(null, word("x")), api.Maybe, api.OK)
	mustTruth(t, cols, lessThree(), list(num(1)), 0, api.ErrValue)
	one := compared("a", api.Eq, num(1))
	mustPlain(t, not(and(lessThree(), not(or(one, isNull("a"))))), or(compared("a", api.Ge, num(3)), one, isNull("a")))
	mustPlain(t, not(in("a", num(1))), not(in("a", num(1))))
}

// TestExamplesNames: the chapter's table.
func TestExamplesNames(t *testing.T) {
	q := asking(column("t"))
	q.Where = lessThree()
	mustNeed(t, twoColumns(), q, 0, 1)
	mustName(t, asking(rows, sum("a"), column("t")), "rows", "sum(a)", "t")
}

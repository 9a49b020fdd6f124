package query_test

import (
	"slices"
	"testing"

	"colonnade/api"
	"colonnade/atom"
	"colonnade/query"
)

// mustBePlain is P23.8 of a plain form and of all that stands within it.
func mustBePlain(t *testing.T, p api.Pred) {
	t.Helper()
	for _, k := range p.Kids {
		if p.Kind == k.Kind {
			t.Fatalf("%s stands within its like", brief(k))
		}
		if p.Kind == api.PredNot {
			_, opposite := atom.Not(k)
			if k.Kind > api.PredBegins || opposite {
				t.Fatalf("a PredNot stands above %s", brief(k))
			}
		}
		mustBePlain(t, k)
	}
}

// samples are predicates that may be for fourColumns: by chance, and as great as may be.
func samples(seed uint64, n int) []api.Pred {
	r := byChance(seed)
	out := append(goodAtoms(), all, nots(63, lessThree()), nots(62, isNull("a")), nots(63, all))
	for range n {
		out = append(out, somePred(r, fourColumns(), 1+r.IntN(8)))
	}
	p := lessThree()
	for i := range 62 {
		p = api.Pred{Kind: api.PredAnd + i/2%2, Kids: []api.Pred{p, somePred(r, fourColumns(), 2)}}
	}
	return append(out, p, not(p), and(slices.Repeat([]api.Pred{in("a", num(1))}, 4095)...), not(or(slices.Repeat([]api.Pred{isNull("a")}, 4094)...)))
}

// TestP23_7SameTruth: a plain form says of each row what the predicate says, as does the form of its PredNot.
func TestP23_7SameTruth(t *testing.T) {
	r := byChance(7)
	for _, p := range samples(7, 3000) {
		q := query.Plain(p)
		for range 5 {
			row := someRow(r, fourColumns())
			was, e := query.Truth(fourColumns(), p, row)
			if e != api.OK {
				t.Fatalf("Truth(%s) = %d", brief(p), e)
			}
			if says(fourColumns(), q, row) != was {
				t.Fatalf("of %s: %s says %d, %s does not", brief(row), brief(p), was, brief(q))
			}
			if size(q) <= api.MaxPreds {
				mustTruth(t, fourColumns(), q, row, was, api.OK)
			}
		}
	}
}

// TestP23_7NoDeeper: a plain form stands no deeper, and is well made; it may be more than MaxPreds, and then it alone is refused.
func TestP23_7NoDeeper(t *testing.T) {
	more := 0
	for _, p := range samples(8, 3000) {
		q := query.Plain(p)
		if depth(q) > depth(p) || !wellMade(fourColumns(), q) {
			t.Fatalf("%s became %s", brief(p), brief(q))
		}
		if size(q) > api.MaxPreds {
			more++
		}
		mustPred(t, fourColumns(), q, readPred(fourColumns(), q))
	}
	if more == 0 {
		t.Fatal("none became more than MaxPreds")
	}
}

// TestP23_8Plain: where PredNots stand, that nothing stands within its like, and that a plain form is its own.
func TestP23_8Plain(t *testing.T) {
	for _, p := range samples(9, 5000) {
		q := query.Plain(p)
		mustBePlain(t, q)
		mustPlain(t, q, q)
		mustPlain(t, nots(2, p), q)
		mustPlain(t, not(query.Plain(not(p))), q)
	}
}

// TestP23_9MoreColumns: further columns ahead, between and behind take nothing away; the same columns are needed, under their new numbers.
func TestP23_9MoreColumns(t *testing.T) {
	r := byChance(10)
	for range 3000 {
		q := someQuery(r, fourColumns())
		mustCheck(t, fourColumns(), q, api.OK)
		more := fourColumns()
		for range 1 + r.IntN(20) {
			c := api.Column{Name: "x" + string(rune('a'+len(more))), Type: 1 + r.IntN(2), Null: r.IntN(2) == 0}
			more = slices.Insert(more, r.IntN(len(more)+1), c)
		}
		r.Shuffle(len(more), func(i, k int) { more[i], more[k] = more[k], more[i] })
		for i := range more {
			// Whether nulls may stand in a column makes no difference.
			more[i].Null = r.IntN(2) == 0
		}
		mustCheck(t, more, q, api.OK)
		mustPred(t, more, q.Where, api.OK)
		var was, is []string
		for _, i := range query.Needs(fourColumns(), q) {
			was = append(was, fourColumns()[i].Name)
		}
		for _, i := range query.Needs(more, q) {
			is = append(is, more[i].Name)
		}
		slices.Sort(was)
		slices.Sort(is)
		if !slices.Equal(was, is) {
			t.Fatalf("%s needs %v, and of more columns %v", brief(q), was, is)
		}
	}
}

// TestP23_9Alone: the columns that a query needs, and one of whichever name, are enough to ask it of.
func TestP23_9Alone(t *testing.T) {
	r := byChance(11)
	for range 3000 {
		q := someQuery(r, fourColumns())
		few := []api.Column{{Name: "spare", Type: api.Text}}
		for _, i := range query.Needs(fourColumns(), q) {
			few = append(few, fourColumns()[i])
		}
		mustCheck(t, few, q, api.OK)
		for drop := 1; drop < len(few); drop++ {
			mustCheck(t, slices.Delete(slices.Clone(few), drop, drop+1), q, api.ErrQuery)
		}
	}
}

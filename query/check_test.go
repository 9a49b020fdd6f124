package query_test

import (
	"math"
	"slices"
	"testing"

	"colonnade/api"
	"colonnade/query"
)

func mustCheck(t *testing.T, cols []api.Column, q api.Query, want api.Errno) {
	t.Helper()
	if e := query.Check(cols, q); e != want {
		t.Fatalf("Check(%s, %s) = %d, not %d", brief(cols), brief(q), e, want)
	}
}

// TestP23_1Schema: the columns are looked at first, whatever the query is.
func TestP23_1Schema(t *testing.T) {
	for _, cols := range wrongColumns() {
		for _, q := range []api.Query{asking(column("a")), asking(rows), asking(), {Limit: -9}, {Items: []api.Item{rows}, Where: compared("z", 9, null)}} {
			mustCheck(t, cols, q, api.ErrSchema)
		}
	}
	mustCheck(t, manyColumns(), asking(rows), api.OK)
	mustCheck(t, []api.Column{{Name: "a", Type: api.Int}}, asking(column("a")), api.OK)
}

// TestP23_1HowManyItems: from one to 64.
func TestP23_1HowManyItems(t *testing.T) {
	for n := range 130 {
		want := api.OK
		if n == 0 || n > 64 {
			want = api.ErrQuery
		}
		mustCheck(t, fourColumns(), asking(slices.Repeat([]api.Item{column("a")}, n)...), want)
		mustCheck(t, fourColumns(), asking(slices.Repeat([]api.Item{rows}, n)...), want)
	}
	mustCheck(t, fourColumns(), asking(slices.Repeat([]api.Item{rows}, 1<<16+1)...), api.ErrQuery)
}

// TestP23_1Items: of each Kind, of each column, of none, alone and behind another one.
func TestP23_1Items(t *testing.T) {
	kinds := []int{math.MinInt, -1, 0, 1, 2, 3, 4, 5, 6, 7, 8, 9, 256 + 1, 1<<32 + 2, math.MaxInt}
	for _, kind := range kinds {
		for _, name := range []string{"a", "t", "n", "s", "", "z", "A", "a ", " a", "a\x00", "rows", "sum(a)"} {
			it := api.Item{Kind: kind, Column: name}
			want := api.OK
			if !itemMayBe(fourColumns(), it) {
				want = api.ErrQuery
			}
			mustCheck(t, fourColumns(), asking(it), want)
			for _, other := range []api.Item{rows, column("a"), sum("n")} {
				for _, q := range []api.Query{asking(it, other), asking(other, it), asking(other, other, it, other)} {
					mustCheck(t, fourColumns(), q, readCheck(fourColumns(), q))
				}
			}
		}
	}
	for _, kind := range []int{api.ItemSum, api.ItemMean} {
		mustCheck(t, fourColumns(), asking(api.Item{Kind: kind, Column: "t"}), api.ErrQuery)
		mustCheck(t, fourColumns(), asking(api.Item{Kind: kind, Column: "a"}), api.OK)
	}
	for _, kind := range []int{api.ItemCount, api.ItemMin, api.ItemMax, api.ItemColumn} {
		mustCheck(t, fourColumns(), asking(api.Item{Kind: kind, Column: "t"}), api.OK)
	}
}

// TestP23_1Where: what CheckPred says of it.
func TestP23_1Where(t *testing.T) {
	for _, p := range badPreds() {
		q := asking(rows)
		q.Where = p
		mustCheck(t, fourColumns(), q, api.ErrQuery)
	}
	for _, p := range append(goodAtoms(), all, nots(63, lessThree()), and(all, lessThree())) {
		q := asking(rows)
		q.Where = p
		mustCheck(t, fourColumns(), q, api.OK)
	}
	q := asking(rows)
	q.Where = nots(64, all)
	mustCheck(t, fourColumns(), q, api.ErrQuery)
}

// TestP23_1Group: which names may stand there.
func TestP23_1Group(t *testing.T) {
	good := [][]string{nil, {}, {"a"}, {"t", "a"}, {"s", "n", "t", "a"}}
	bad := [][]string{{""}, {"z"}, {"a", "a"}, {"a", "t", "a"}, {"a", "z"}, {"z", "a"}, {"A"}, {"a", ""}, {"s", "n", "t", "a", "s"}, {"rows"}}
	for _, g := range good {
		q := asking(rows, sum("a"), api.Item{Kind: api.ItemMin, Column: "t"})
		q.Group = g
		mustCheck(t, fourColumns(), q, api.OK)
	}
	for _, g := range bad {
		for _, it := range []api.Item{rows, column("a"), sum("n")} {
			q := asking(it)
			q.Group = g
			mustCheck(t, fourColumns(), q, api.ErrQuery)
		}
	}
}

// TestP23_1GroupLimit: all 256 columns may be grouped by, and no further name can be one that is not there twice.
func TestP23_1GroupLimit(t *testing.T) {
	q := asking(rows)
	for _, c := range manyColumns() {
		q.Group = append(q.Group, c.Name)
		mustCheck(t, manyColumns(), q, api.OK)
	}
	for _, more := range []string{q.Group[0], q.Group[255], "z", ""} {
		o := q
		o.Group = append(slices.Clone(q.Group), more)
		mustCheck(t, manyColumns(), o, api.ErrQuery)
		o.Group[0], o.Group[256] = o.Group[256], o.Group[0]
		mustCheck(t, manyColumns(), o, api.ErrQuery)
	}
}

// TestP23_1Mixed: without Group columns alone, or none; with it columns of Group alone, beside whatever others.
func TestP23_1Mixed(t *testing.T) {
	kinds := []api.Item{column("a"), column("t"), rows, sum("a"), {Kind: api.ItemCount, Column: "t"}, {Kind: api.ItemMean, Column: "n"}}
	groups := [][]string{nil, {"a"}, {"t"}, {"n"}, {"t", "a"}, {"s", "n"}}
	for _, g := range groups {
		for i := range kinds {
			for j := range kinds {
				for k := range kinds {
					q := asking(kinds[i], kinds[j], kinds[k])
					q.Group = g
					mustCheck(t, fourColumns(), q, readCheck(fourColumns(), q))
				}
			}
		}
	}
	mixed := asking(column("a"), rows)
	mustCheck(t, fourColumns(), mixed, api.ErrQuery)
	mixed.Group = []string{"a"}
	mustCheck(t, fourColumns(), mixed, api.OK)
	mixed.Group = []string{"t"}
	mustCheck(t, fourColumns(), mixed, api.ErrQuery)
}

// TestP23_1Order: at most 64 keys, each of an item that is there, as often as one likes.
func TestP23_1Order(t *testing.T) {
	for n := 1; n <= 3; n++ {
		for _, at := range []int{math.MinInt, -2, -1, 0, 1, 2, 3, 4, 64, 1 << 32, math.MaxInt} {
			for _, down := range []bool{false, true} {
				q := asking(slices.Repeat([]api.Item{column("t")}, n)...)
				q.Order = []api.Key{{Item: 0}, {Item: at, Down: down}, {Item: 0, Down: true}}
				want := api.OK
				if at < 0 || at >= n {
					want = api.ErrQuery
				}
				mustCheck(t, fourColumns(), q, want)
			}
		}
	}
	for _, n := range []int{0, 1, 2, 63, 64, 65, 66, 256, 1 << 16} {
		q := asking(rows)
		q.Order = make([]api.Key, n)
		want := api.OK
		if n > 64 {
			want = api.ErrQuery
		}
		mustCheck(t, fourColumns(), q, want)
	}
}

// TestP23_1Limit: -1 or above.
func TestP23_1Limit(t *testing.T) {
	for _, limit := range []int{math.MinInt, -1 << 32, -3, -2, -1, 0, 1, 2, 1 << 24, 1 << 32, math.MaxInt} {
		q := asking(rows)
		q.Limit = limit
		want := api.OK
		if limit < -1 {
			want = api.ErrQuery
		}
		mustCheck(t, fourColumns(), q, want)
	}
}

// TestP23_1ByChance: queries that may be asked, and such with a part that was changed, are told apart as the plain reading does.
func TestP23_1ByChance(t *testing.T) {
	r := byChance(1)
	passed, refused := 0, 0
	for range 20000 {
		q := someQuery(r, fourColumns())
		mustCheck(t, fourColumns(), q, api.OK)
		q = spoiltQuery(r, q)
		want := readCheck(fourColumns(), q)
		mustCheck(t, fourColumns(), q, want)
		if want == api.OK {
			passed++
		} else {
			refused++
		}
	}
	if passed < 2000 || refused < 5000 {
		t.Fatalf("too few of a sort: %d passed, %d refused", passed, refused)
	}
}

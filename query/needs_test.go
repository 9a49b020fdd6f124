package query_test

import (
	"math"
	"slices"
	"testing"

	"colonnade/api"
	"colonnade/query"
)

func mustNeed(t *testing.T, cols []api.Column, q api.Query, want ...int) {
	t.Helper()
	if l := query.Needs(cols, q); !slices.Equal(l, want) {
		t.Fatalf("Needs(%s, %s) = %v, not %v", brief(cols), brief(q), l, want)
	}
}

func mustName(t *testing.T, q api.Query, want ...string) {
	t.Helper()
	if l := query.Names(q); !slices.Equal(l, want) {
		t.Fatalf("Names(%s) = %q, not %q", brief(q), l, want)
	}
}

// TestP23_5Needs: what each part names, in the columns' order, each once.
func TestP23_5Needs(t *testing.T) {
	cols := fourColumns()
	mustNeed(t, cols, asking(rows))
	mustNeed(t, cols, asking(column("s")), 3)
	mustNeed(t, cols, asking(column("s"), column("a"), column("s"), column("a")), 0, 3)
	mustNeed(t, cols, asking(column("s"), column("n"), column("t"), column("a")), 0, 1, 2, 3)
	for kind := api.ItemCount; kind <= api.ItemMean; kind++ {
		mustNeed(t, cols, asking(api.Item{Kind: kind, Column: "n"}), 2)
	}
	mustNeed(t, cols, api.Query{Items: []api.Item{rows}, Group: []string{"s", "t"}}, 1, 3)
	mustNeed(t, cols, api.Query{Items: []api.Item{rows, column("t"), sum("a")}, Group: []string{"s", "t"}}, 0, 1, 3)
	mustNeed(t, cols, api.Query{Items: []api.Item{rows}, Where: isNull("n"), Group: []string{"s"}, Order: []api.Key{{Item: 0}}}, 2, 3)
	for _, p := range goodAtoms() {
		at := slices.IndexFunc(cols, func(c api.Column) bool { return c.Name == p.Column })
		for _, where := range []api.Pred{p, not(p), and(all, p), or(p, all), or(all, not(and(all, p, p)))} {
			mustNeed(t, cols, api.Query{Items: []api.Item{rows}, Where: where}, at)
		}
	}
	mustNeed(t, cols, api.Query{Items: []api.Item{column("t")}, Where: or(isNull("s"), and(not(isNull("a")), isNull("t")))}, 0, 1, 3)
	mustNeed(t, cols, api.Query{Items: []api.Item{rows}, Where: and(all, not(all))})
}

// TestP23_5Nothing: what may not be asked needs nothing.
func TestP23_5Nothing(t *testing.T) {
	for _, cols := range wrongColumns() {
		mustNeed(t, cols, asking(rows))
		mustNeed(t, cols, asking(column("a")))
	}
	mustNeed(t, fourColumns(), asking())
	mustNeed(t, fourColumns(), asking(column("a"), column("z")))
	mustNeed(t, fourColumns(), asking(column("a"), rows))
	mustNeed(t, fourColumns(), api.Query{Items: []api.Item{column("a")}, Limit: -2})
	mustNeed(t, fourColumns(), api.Query{Items: []api.Item{column("a")}, Order: []api.Key{{Item: 1}}})
	mustNeed(t, fourColumns(), api.Query{Items: []api.Item{column("a")}, Group: []string{"t"}})
	for _, p := range badPreds() {
		mustNeed(t, fourColumns(), api.Query{Items: []api.Item{column("a")}, Where: p})
	}
}

// TestP23_5Many: of 256 columns, the numbers rise whatever the order in which they are named.
func TestP23_5Many(t *testing.T) {
	cols, r := manyColumns(), byChance(5)
	q := asking(rows)
	for i, at := range r.Perm(256) {
		q.Group = append(q.Group, cols[at].Name)
		if i%16 == 15 {
			mustNeed(t, cols, q, readNeeds(cols, q)...)
		}
	}
	var every []int
	for i := range cols {
		every = append(every, i)
	}
	mustNeed(t, cols, q, every...)
}

// TestP23_5ByChance: as the plain reading has it, again and again the same.
func TestP23_5ByChance(t *testing.T) {
	r := byChance(6)
	for range 5000 {
		q := someQuery(r, fourColumns())
		mustNeed(t, fourColumns(), q, readNeeds(fourColumns(), q)...)
		mustNeed(t, fourColumns(), q, readNeeds(fourColumns(), q)...)
		q = spoiltQuery(r, q)
		mustNeed(t, fourColumns(), q, readNeeds(fourColumns(), q)...)
		few := someQuery(r, manyColumns())
		mustNeed(t, manyColumns(), few, readNeeds(manyColumns(), few)...)
	}
}

// TestP23_6Names: a name an item, whatever else the query is, and whatever the column is.
func TestP23_6Names(t *testing.T) {
	wants := map[int]func(c string) string{
		1: func(c string) string { return c }, 2: func(c string) string { return "rows" }, 3: func(c string) string { return "count(" + c + ")" }, 4: func(c string) string { return "sum(" + c + ")" },
		5: func(c string) string { return "min(" + c + ")" }, 6: func(c string) string { return "max(" + c + ")" }, 7: func(c string) string { return "mean(" + c + ")" },
	}
	for _, kind := range []int{math.MinInt, -1, 0, 1, 2, 3, 4, 5, 6, 7, 8, 9, 256 + 3, 1<<32 + 4, math.MaxInt} {
		for _, c := range []string{"a", "t", "", "z", "rows", "sum(a)", "é\xff", "a\x00b"} {
			want := ""
			if f := wants[kind]; f != nil {
				want = f(c)
			}
			it := api.Item{Kind: kind, Column: c}
			mustName(t, api.Query{Items: []api.Item{it}}, want)
			mustName(t, api.Query{Items: []api.Item{rows, it, column("x")}, Where: api.Pred{Kind: 99}, Group: []string{"", ""}, Order: []api.Key{{Item: -1}}, Limit: -9}, "rows", want, "x")
		}
	}
	mustName(t, api.Query{})
	mustName(t, api.Query{Items: []api.Item{}, Group: []string{"a"}})
	if l := query.Names(api.Query{Items: slices.Repeat([]api.Item{sum("a")}, 1000)}); len(l) != 1000 || l[999] != "sum(a)" {
		t.Fatalf("%d names", len(l))
	}
}

// TestP23_6Grouped: whether there is a name, whichever it is.
func TestP23_6Grouped(t *testing.T) {
	for _, c := range []struct {
		q    api.Query
		want bool
	}{
		{api.Query{}, false}, {api.Query{Group: []string{}}, false}, {api.Query{Items: []api.Item{column("a")}}, false}, {api.Query{Group: []string{"a"}}, true}, {api.Query{Group: []string{""}}, true}, {api.Query{Group: []string{"x", "x"}, Limit: -9}, true}, {api.Query{Group: make([]string, 300)}, true}, {api.Query{Group: []string{"a"}[:0]}, false},
	} {
		if query.Grouped(c.q) != c.want {
			t.Errorf("Grouped(%s) is not %v", brief(c.q), c.want)
		}
	}
}

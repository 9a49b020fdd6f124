package logic_test

import (
	"slices"
	"testing"

	"colonnade/api"
	"colonnade/logic"
)

func mustOpen(t *testing.T, x table, p api.Pred, want ...int) {
	t.Helper()
	x.mustAnswer(t, 0, p)
	if _, _, opened, _ := logic.Where(x.im, 0, p); !slices.Equal(opened, want) {
		t.Fatalf("%s opens %v, not %v", brief(p), opened, want)
	}
}

// threeKinds are atoms that stand so in two rows: Yes of both, Maybe of one, No of both, and so on; each in a column of its own, the name of which says it.
func threeKinds(t *testing.T) (table, func(name string) api.Pred) {
	t.Helper()
	names := []string{"YY", "YM", "YN", "MY", "MM", "MN", "NY", "NM", "NN"}
	tab := api.Table{Rows: make([][]api.Value, 2)}
	for _, name := range names {
		tab.Columns = append(tab.Columns, api.Column{Name: name, Type: api.Int, Null: true})
		for i := range tab.Rows {
			v := map[byte]api.Value{'Y': num(1), 'N': num(0), 'M': null}[name[i]]
			tab.Rows[i] = append(tab.Rows[i], v)
		}
	}
	return mustImage(t, tab, plainLayout(tab, 2)), func(name string) api.Pred { return compared(name, api.Eq, num(1)) }
}

// TestP25_1AndStops: once it is No for all rows, and not while it is Maybe of one.
func TestP25_1AndStops(t *testing.T) {
	x, of := threeKinds(t)
	mustOpen(t, x, and(of("NN"), of("YY")), 8)
	mustOpen(t, x, and(of("NN"), of("NN")), 8)
	mustOpen(t, x, and(of("NN"), of("YY"), of("YM"), of("MM")), 8)
	for i, name := range []string{"YY", "YM", "YN", "MY", "MM", "MN", "NY", "NM"} {
		mustOpen(t, x, and(of(name), of("NN"), of("YM")), i, 8)
	}
	mustOpen(t, x, and(of("YN"), of("NY"), of("MM")), 2, 6)
	mustOpen(t, x, and(of("MN"), of("NM"), of("MM")), 5, 7)
	mustOpen(t, x, and(of("MN"), of("NM")), 5, 7)
	mustOpen(t, x, and(of("YN"), of("MN"), of("NY"), of("YY")), 2, 5, 6)
	mustOpen(t, x, and(of("YN"), of("MN"), of("YY"), of("NN"), of("YM")), 0, 2, 5, 8)
	mustOpen(t, x, and(not(of("YY")), of("MM")), 0)
	mustOpen(t, x, and(not(of("YM")), of("MM")), 1, 4)
	mustOpen(t, x, and(not(all), of("YY")))
}

// TestP25_1OrStops: once it is Yes for all rows, and not while it is Maybe of one.
func TestP25_1OrStops(t *testing.T) {
	x, of := threeKinds(t)
	mustOpen(t, x, or(of("YY"), of("NN")), 0)
	mustOpen(t, x, or(of("YY"), of("NN"), of("YM"), of("MM")), 0)
	for i, name := range []string{"YM", "YN", "MY", "MM", "MN", "NY", "NM", "NN"} {
		mustOpen(t, x, or(of(name), of("YY"), of("YM")), 0, i+1)
	}
	mustOpen(t, x, or(of("YN"), of("NY"), of("MM")), 2, 6)
	mustOpen(t, x, or(of("YM"), of("MY"), of("NN")), 1, 3)
	mustOpen(t, x, or(of("MM"), of("MM"), of("NN")), 4, 8)
	mustOpen(t, x, or(of("YN"), of("MM"), of("NY"), of("NN")), 2, 4, 6)
	mustOpen(t, x, or(not(of("NN")), of("MM")), 8)
	mustOpen(t, x, or(not(of("NM")), of("MM")), 4, 7)
	mustOpen(t, x, or(all, of("YY")))
	mustOpen(t, x, or(not(all), of("YN"), all, of("YY")), 2)
}

// TestP25_1StopsWithin: each PredAnd and each PredOr stops by itself alone, whatever stands about it.
func TestP25_1StopsWithin(t *testing.T) {
	x, of := threeKinds(t)
	mustOpen(t, x, or(and(of("NN"), of("MM")), of("YN")), 2, 8)
	mustOpen(t, x, and(or(of("YY"), of("MM")), of("YN")), 0, 2)
	mustOpen(t, x, not(and(of("NN"), of("MM"))), 8)
	mustOpen(t, x, not(or(of("YY"), of("MM"))), 0)
	mustOpen(t, x, not(and(of("YY"), of("MM"))), 0, 4)
	mustOpen(t, x, or(of("YN"), and(of("NY"), of("MY"), or(of("YM"), of("NN")))), 1, 2, 3, 6, 8)
	mustOpen(t, x, and(of("YN"), and(of("NY"), of("MM")), of("MM")), 2, 4, 6)
	mustOpen(t, x, and(of("YN"), or(of("NY"), of("YN"), of("MM"))), 2, 6)
	// What settles a PredAnd settles it within a PredOr too, and the kids of that go on.
	mustOpen(t, x, or(not(or(of("YY"), of("MM"))), not(and(of("NN"), of("MM"))), of("NM")), 0, 8)
}

// TestP25_1EachPair: any two, three kids of the nine sorts, by both Kinds.
func TestP25_1EachPair(t *testing.T) {
	x, of := threeKinds(t)
	for _, a := range x.t.Columns {
		for _, b := range x.t.Columns {
			for _, p := range []api.Pred{and(of(a.Name), of(b.Name)), or(of(a.Name), of(b.Name)), and(not(of(a.Name)), of(b.Name)), or(of(a.Name), not(of(b.Name)))} {
				x.mustAnswer(t, 0, p)
				x.mustAnswer(t, 0, not(p))
			}
			for _, c := range x.t.Columns {
				x.mustAnswer(t, 0, and(of(a.Name), of(b.Name), of(c.Name)))
				x.mustAnswer(t, 0, or(of(a.Name), of(b.Name), of(c.Name)))
				x.mustAnswer(t, 0, and(of(a.Name), or(of(b.Name), of(c.Name))))
				x.mustAnswer(t, 0, or(and(of(a.Name), of(b.Name)), of(c.Name)))
			}
		}
	}
}

// TestP25_1Rising: the numbers rise, each once, whatever order and however often their atoms are asked in; of 256 columns.
func TestP25_1Rising(t *testing.T) {
	r := byChance(10)
	tab := someTable(r, manyColumns(), 5)
	x := mustImage(t, tab, plainLayout(tab, 5))
	for range 100 {
		p := api.Pred{Kind: api.PredAnd}
		var want []int
		for range 2 + r.IntN(300) {
			at := oneOf(r, []int{r.IntN(256), r.IntN(4), 255 - r.IntN(4)})
			p.Kids = append(p.Kids, or(isNull(tab.Columns[at].Name), not(isNull(tab.Columns[at].Name))))
			want = append(want, at)
		}
		mustOpen(t, x, p, slices.Compact(slices.Sorted(slices.Values(want)))...)
	}
}

// TestP25_4Named: only columns that an atom names are opened; where atoms are asked, that of the first one is.
func TestP25_4Named(t *testing.T) {
	r := byChance(11)
	for _, x := range someTables(t, 11, 1) {
		for range 200 {
			p := somePred(r, fourColumns(), 1+r.IntN(6))
			for g := range x.l.Groups {
				_, _, opened, e := logic.Where(x.im, g, p)
				if e != api.OK {
					t.Fatalf("%s: %d", brief(p), e)
				}
				for _, at := range opened {
					if !names(p, x.t.Columns[at].Name) {
						t.Fatalf("%s opens %v", brief(p), opened)
					}
				}
				if l := asked(x.t.Columns, p, x.rows(g)); len(l) > 0 && !slices.Contains(opened, l[0]) {
					t.Fatalf("%s opens %v, and not %d", brief(p), opened, l[0])
				}
			}
		}
	}
}

// names is whether some atom names a column.
func names(p api.Pred, name string) bool {
	return p.Column == name || slices.ContainsFunc(p.Kids, func(k api.Pred) bool { return names(k, name) })
}

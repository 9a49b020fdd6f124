package prune_test

import (
	"math"
	"slices"
	"testing"

	"colonnade/api"
	"colonnade/image"
	"colonnade/layout"
	"colonnade/prune"
)

// small is three rows in the row groups of two, of none and of one.
func small(t *testing.T) table {
	t.Helper()
	tab := api.Table{Columns: fourColumns(), Rows: [][]api.Value{
		{num(1), word("ab"), num(5), null},
		{null, word("abc"), num(5), null},
		{num(7), word("b"), num(-2), word("x")},
	}}
	return plainly(t, tab, 2, 0, 1)
}

// TestP26_3Atoms: each atom by the record of its own chunk.
func TestP26_3Atoms(t *testing.T) {
	for _, x := range append(someTables(t, 1, 2), small(t)) {
		for _, c := range fourColumns() {
			l := fewValues(c.Type)
			for _, p := range atomsOf(c, l[1:5]) {
				x.mustAnswerAll(t, p)
				x.mustAnswerAll(t, not(p))
			}
		}
		x.mustAnswerAll(t, all)
		x.mustAnswerAll(t, not(all))
	}
}

// TestP26_3Told: what stands in a small image, told by hand.
func TestP26_3Told(t *testing.T) {
	x := small(t)
	on := api.Options{Zones: true}
	less := compared("a", api.Lt, num(1))
	for _, row := range []struct {
		p            api.Pred
		first, third string
	}{
		{all, "Y", "Y"}, {not(all), "N", "N"}, {less, "NM", "N"}, {not(less), "YM", "Y"}, {isNull("a"), "NY", "N"}, {isNull("s"), "Y", "N"}, {not(isNull("s")), "N", "Y"},
		{compared("s", api.Eq, word("x")), "M", "Y"}, {begins("t", word("ab")), "Y", "N"}, {compared("n", api.Eq, num(5)), "Y", "N"},
		{and(less, all), "NM", "N"}, {or(less, all), "Y", "Y"}, {and(not(less), isNull("a")), "NYM", "N"}, {or(not(less), isNull("a")), "YM", "Y"},
		{and(not(less), compared("s", api.Ne, word("q"))), "M", "Y"}, {or(less, compared("s", api.Ne, word("q")), compared("n", api.Ge, num(6))), "M", "Y"},
	} {
		for g, want := range map[int]string{0: row.first, 1: "", 2: row.third} {
			if got, e := prune.Can(x.im, g, row.p, on); got != set(want) || e != api.OK {
				t.Errorf("%s in row group %d: %v, %d; want %s", brief(row.p), g, got, e, want)
			}
		}
		x.mustAnswerAll(t, row.p)
	}
}

// TestP26_3Kids: predicates of whatever shape, by records of whatever images.
func TestP26_3Kids(t *testing.T) {
	r := byChance(2)
	for _, x := range someTables(t, 2, 3) {
		for range 150 {
			x.mustAnswerAll(t, somePred(r, fourColumns(), 1+r.IntN(6)))
		}
	}
}

// TestP26_3Images: the same of images that layer 16 has written, in any codec.
func TestP26_3Images(t *testing.T) {
	r := byChance(3)
	for range 30 {
		tab := someTable(r, fourColumns(), 12)
		l, e := layout.Even(tab, 1+r.IntN(12))
		b, we := layout.Write(tab, l)
		im, oe := image.Open(b)
		if e != api.OK || we != api.OK || oe != api.OK {
			t.Fatalf("%d, %d, %d", e, we, oe)
		}
		x := table{t: tab, l: l, im: im}
		for g := range l.Groups {
			var zones []api.Zone
			for c := range tab.Columns {
				z, _ := im.Zone(g, c)
				zones = append(zones, z)
			}
			x.zones = append(x.zones, zones)
		}
		for range 100 {
			x.mustAnswerAll(t, somePred(r, fourColumns(), 1+r.IntN(6)))
		}
	}
}

// TestP26_3Columns: of as many columns as there may be each is found.
func TestP26_3Columns(t *testing.T) {
	r := byChance(4)
	cols := manyColumns()
	x := cut(t, someTable(r, cols, 3), []int{2, 1}, tight(r))
	for _, c := range cols {
		x.mustAnswerAll(t, isNull(c.Name))
		x.mustAnswerAll(t, compared(c.Name, api.Le, fewValues(c.Type)[3]))
	}
	for range 50 {
		x.mustAnswerAll(t, somePred(r, cols, 5))
	}
}

// wrapped is so many deep, the predicate itself counted.
func wrapped(deep int, p api.Pred) api.Pred {
	for range deep - 1 {
		p = not(p)
	}
	return p
}

// TestP26_3Limits: predicates as deep, as many, and with lists as long as they may be, and one more of each.
func TestP26_3Limits(t *testing.T) {
	x := small(t)
	less := compared("a", api.Lt, num(1))
	for deep := 60; deep <= 68; deep++ {
		for _, p := range []api.Pred{less, all, and(isNull("s"), less)} {
			q := wrapped(deep, p)
			if d, _ := measure(q); d <= 64 {
				x.mustAnswerAll(t, q)
			} else {
				mustRefuse(t, x.im, 0, q, api.ErrQuery)
				mustRefuse(t, x.im, 1, q, api.ErrQuery)
			}
		}
	}
	kids := slices.Repeat([]api.Pred{less, isNull("s"), compared("n", api.Ne, num(5))}, 1365)
	x.mustAnswerAll(t, and(kids...))
	x.mustAnswerAll(t, or(kids...))
	for _, p := range []api.Pred{and(append(kids, less)...), or(append(kids, less)...), not(and(kids...))} {
		mustRefuse(t, x.im, 0, p, api.ErrQuery)
	}
	long := slices.Repeat(list(num(1)), 1024)
	x.mustAnswerAll(t, in("a", long...))
	mustRefuse(t, x.im, 0, in("a", append(long, num(1))...), api.ErrQuery)
}

// TestP26_3Errors: an image that is not there, a row group that is not, a predicate that may not be, in this order.
func TestP26_3Errors(t *testing.T) {
	x := small(t)
	bad, good := api.Pred{Kind: 9}, isNull("a")
	numbers := []int{math.MinInt, -1 << 32, -2, -1, 3, 4, 1 << 32, math.MaxInt}
	for _, p := range []api.Pred{bad, good, all} {
		for _, g := range append(numbers, 0, 1, 2) {
			mustRefuse(t, nil, g, p, api.ErrNil)
			mustRefuse(t, new(image.Image), g, p, api.ErrNil)
		}
		for _, g := range numbers {
			mustRefuse(t, x.im, g, p, api.ErrArg)
		}
	}
	for g := range 3 {
		for _, p := range badPreds() {
			if predMayBe(fourColumns(), p) {
				t.Fatalf("%s may be", brief(p))
			}
			mustRefuse(t, x.im, g, p, api.ErrQuery)
		}
	}
	empty := plainly(t, api.Table{Columns: fourColumns()})
	mustRefuse(t, empty.im, 0, good, api.ErrArg)
	mustRefuse(t, empty.im, 0, bad, api.ErrArg)
}

// TestP26_4: a row group is skipped just if it has a row, a switch that counts is on, and Yes is not possible.
func TestP26_4(t *testing.T) {
	x := small(t)
	high := compared("a", api.Gt, num(5))
	for _, row := range []struct {
		p    api.Pred
		want [3]bool
	}{
		{high, [3]bool{true, false, false}}, {not(high), [3]bool{false, false, true}}, {all, [3]bool{}}, {not(all), [3]bool{true, false, true}}, {isNull("s"), [3]bool{false, false, true}}, {compared("s", api.Ne, word("q")), [3]bool{true, false, false}},
		{and(high, isNull("s")), [3]bool{true, false, true}}, {or(high, isNull("s")), [3]bool{}}, {in("t"), [3]bool{true, false, true}}, {between("n", num(6), num(1)), [3]bool{true, false, true}},
	} {
		for g, want := range row.want {
			for _, o := range switches() {
				if got, e := prune.Skip(x.im, g, row.p, o); got != want && o.Zones || got && !o.Zones && !o.Blooms || e != api.OK {
					t.Errorf("Skip of row group %d, %s, %v: %v, %d", g, brief(row.p), o, got, e)
				}
			}
		}
	}
}

// TestP26_4Switches: with neither of the two nothing is skipped, not even what no row can be.
func TestP26_4Switches(t *testing.T) {
	tab := api.Table{Columns: fourColumns(), Rows: [][]api.Value{{null, word("b"), num(1), null}}}
	r := byChance(5)
	x := cut(t, tab, []int{1, 0}, func(c api.Column, l []api.Value) api.Zone {
		z := tight(r)(c, l)
		z.Bloom = nil
		return z
	})
	for _, p := range []api.Pred{not(all), in("t"), between("n", num(2), num(1)), isNull("t")} {
		for _, row := range []struct {
			o    api.Options
			want bool
		}{{api.Options{}, false}, {api.Options{Reorder: true, Workers: 3}, false}, {api.Options{Zones: true}, true}, {api.Options{Blooms: true}, true}, {api.Options{Zones: true, Blooms: true}, true}} {
			if got, e := prune.Skip(x.im, 0, p, row.o); got != row.want || e != api.OK {
				t.Errorf("Skip of %s, %v: %v, %d", brief(p), row.o, got, e)
			}
			if got, e := prune.Skip(x.im, 1, p, row.o); got || e != api.OK {
				t.Errorf("Skip of no rows, %s, %v: %v, %d", brief(p), row.o, got, e)
			}
		}
	}
}

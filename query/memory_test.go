package query_test

import (
	"slices"
	"sync"
	"testing"

	"colonnade/api"
	"colonnade/query"
)

// sentinel is a value that no sample has.
func sentinel() api.Value { return api.Value{Kind: 77, Int: 77, Text: "sentinel"} }

// roomy is the same predicate in other memory, each of its lists with room in which something stands.
func roomy(p api.Pred) api.Pred {
	values := append(slices.Clone(p.List), num(5), sentinel())
	var kids []api.Pred
	for _, k := range p.Kids {
		kids = append(kids, roomy(k))
	}
	kids = append(kids, isNull("sentinel"), api.Pred{Kind: 77})
	p.List, p.Kids = values[:len(p.List)], kids[:len(p.Kids)]
	return p
}

// kept is a copy of a predicate, the room of its lists with it.
func kept(p api.Pred) api.Pred {
	values := slices.Clone(p.List[:cap(p.List)])
	var kids []api.Pred
	for _, k := range p.Kids[:cap(p.Kids)] {
		kids = append(kids, kept(k))
	}
	p.List, p.Kids = values, kids
	return p
}

// sameRoom is whether a predicate, with all its room, is as it was when kept took it.
func sameRoom(p, was api.Pred) bool {
	p.List, p.Kids = p.List[:cap(p.List)], p.Kids[:cap(p.Kids)]
	return p.Kind == was.Kind && p.Column == was.Column && p.Op == was.Op && sameValue(p.Value, was.Value) && slices.EqualFunc(p.List, was.List, sameValue) && slices.EqualFunc(p.Kids, was.Kids, sameRoom)
}

// overwrite turns each element of each list, the room too.
func overwrite(p api.Pred) {
	for i := range p.List[:cap(p.List)] {
		p.List[:cap(p.List)][i] = api.Value{Kind: 55}
	}
	for i, k := range p.Kids[:cap(p.Kids)] {
		overwrite(k)
		p.Kids[:cap(p.Kids)][i] = api.Pred{Kind: 55, Column: "overwritten"}
	}
}

// places are the addresses of all elements of all lists, with their room; an address that was met before is told.
type places struct {
	values map[*api.Value]int
	preds  map[*api.Pred]int
}

func (m places) again(p api.Pred) bool {
	twice := false
	for i := range p.List[:cap(p.List)] {
		at := &p.List[:cap(p.List)][i]
		m.values[at]++
		twice = twice || m.values[at] > 1
	}
	for i, k := range p.Kids[:cap(p.Kids)] {
		at := &p.Kids[:cap(p.Kids)][i]
		m.preds[at]++
		twice = twice || m.preds[at] > 1 || m.again(k)
	}
	return twice
}

// memoryPreds are of every sort: such as may be and such as may not, and some that have one list at several places.
func memoryPreds() []api.Pred {
	r := byChance(20)
	out := slices.Concat(goodAtoms(), badAtoms(), badPreds()[:200])
	for range 300 {
		out = append(out, somePred(r, fourColumns(), 1+r.IntN(6)), wildPred(r, 1+r.IntN(5)))
	}
	for _, p := range slices.Clone(out) {
		out = append(out, not(p), and(p, p), not(or(p, and(p, p))), not(not(p, p)), api.Pred{Kind: 9, Kids: []api.Pred{p, p}})
	}
	return out
}

// TestP23_10Unchanged: no call changes what it is handed, nor looks at what stands behind its lists.
func TestP23_10Unchanged(t *testing.T) {
	row := list(num(1), word("b"), num(2), null, sentinel())
	cols := append(fourColumns(), api.Column{Name: "z", Type: api.Int}, api.Column{Name: "", Type: api.Text})
	wasRow, wasCols := slices.Clone(row), slices.Clone(cols)
	for _, p := range memoryPreds() {
		given := roomy(p)
		was := kept(given)
		want, e := readTruth(fourColumns(), p, row[:4])
		mustTruth(t, cols[:4], given, row[:4], want, e)
		mustPred(t, cols[:4], given, readPred(fourColumns(), p))
		mustPlain(t, given, readForm(p, false))
		q := asking(rows)
		q.Where = given
		mustCheck(t, cols[:4], q, readPred(fourColumns(), p))
		mustNeed(t, cols[:4], q, readNeeds(fourColumns(), q)...)
		if !sameRoom(given, was) || !slices.EqualFunc(row, wasRow, sameValue) || !slices.Equal(cols, wasCols) {
			t.Fatalf("asking has changed what was handed in: %s", brief(given))
		}
	}
}

// TestP23_10QueryUnchanged: the same of a query's items, names and keys.
func TestP23_10QueryUnchanged(t *testing.T) {
	r := byChance(21)
	for range 2000 {
		plain := someQuery(r, fourColumns())
		items := append(slices.Clone(plain.Items), column("z"), rows)
		group := append(slices.Clone(plain.Group), "z", "z")
		order := append(slices.Clone(plain.Order), api.Key{Item: 99})
		q := plain
		q.Items, q.Group, q.Order = items[:len(plain.Items)], group[:len(plain.Group)], order[:len(plain.Order)]
		wasItems, wasGroup, wasOrder := slices.Clone(items), slices.Clone(group), slices.Clone(order)
		mustCheck(t, fourColumns(), q, api.OK)
		mustNeed(t, fourColumns(), q, readNeeds(fourColumns(), plain)...)
		if len(query.Names(q)) != len(plain.Items) || query.Grouped(q) != (len(plain.Group) > 0) {
			t.Fatalf("%s is not told as %s", brief(q), brief(plain))
		}
		if !slices.Equal(items, wasItems) || !slices.Equal(group, wasGroup) || !slices.Equal(order, wasOrder) {
			t.Fatalf("asking has changed what was handed in: %s, %s, %s", brief(items), brief(group), brief(order))
		}
	}
}

// TestP23_10NewMemory: a plain form shares no list with the predicate, with an earlier form, or with itself, not even the room behind one.
func TestP23_10NewMemory(t *testing.T) {
	for _, p := range memoryPreds() {
		given := roomy(p)
		one, other := query.Plain(given), query.Plain(given)
		met := places{map[*api.Value]int{}, map[*api.Pred]int{}}
		if met.again(given) || met.again(one) || met.again(other) {
			t.Fatalf("the plain form of %s shares a list", brief(p))
		}
		was, wasOther := kept(given), kept(other)
		overwrite(one)
		if !sameRoom(given, was) || !sameRoom(other, wasOther) {
			t.Fatalf("the plain form of %s was written over, and something else with it", brief(p))
		}
		overwrite(given)
		if !sameRoom(other, wasOther) {
			t.Fatalf("%s was written over, and its plain form with it", brief(p))
		}
	}
}

// TestP23_10SharedLists: a predicate that has one list at several places has a form in which each place has its own.
func TestP23_10SharedLists(t *testing.T) {
	l := list(num(1), num(2), num(3))[:2]
	in, between := in("a", l...), between("a", l...)
	pair := []api.Pred{in, between, isNull("a")}[:2]
	of := func(kind int) api.Pred { return api.Pred{Kind: kind, Kids: pair} }
	for _, p := range []api.Pred{of(6), of(7), of(8), of(9), of(1), and(of(6), of(6)), or(of(6), of(6)), not(or(of(6), of(7), in, in)), not(and(of(8), of(9), between, of(1)))} {
		form := query.Plain(p)
		met := places{map[*api.Value]int{}, map[*api.Pred]int{}}
		if met.again(form) {
			t.Fatalf("two lists of %s are one", brief(form))
		}
		overwrite(form)
		if l[0] != num(1) || l[:3][2] != num(3) || !samePred(pair[0], in) || pair[:3][2].Column != "a" {
			t.Fatal("a form that was written over has changed what was handed in")
		}
	}
}

// TestP23_10Lists: the lists of Needs and Names are new ones each time, and hang on nothing that was handed in.
func TestP23_10Lists(t *testing.T) {
	q := asking(rows, sum("n"), column("t"))
	q.Group = []string{"t", "a"}
	one, other := query.Needs(fourColumns(), q), query.Needs(fourColumns(), q)
	names, again := query.Names(q), query.Names(q)
	for i := range one[:cap(one)] {
		one[:cap(one)][i] = 99
	}
	for i := range names[:cap(names)] {
		names[:cap(names)][i] = "overwritten"
	}
	q.Items[0], q.Items[1], q.Group[0] = column("s"), column("s"), "s"
	if !slices.Equal(other, []int{0, 1, 2}) || !slices.Equal(again, []string{"rows", "sum(n)", "t"}) {
		t.Fatalf("%v, %v: another answer was written over, and these with it", other, again)
	}
	mustName(t, q, "s", "s", "t")
	mustNeed(t, fourColumns(), q)
	q.Group[1] = "t"
	mustNeed(t, fourColumns(), q, 1, 3)
}

// TestP23_10NotKept: each call sees what it is handed as it is then.
func TestP23_10NotKept(t *testing.T) {
	l := list(num(1), num(2))
	p := and(in("a", l...), all)
	p.Kids[0].List = l
	cols, row := fourColumns(), list(num(1), word("b"), num(2), null)
	mustTruth(t, cols, p, row, api.Yes, api.OK)
	form := query.Plain(p)
	l[0] = num(9)
	mustTruth(t, cols, p, row, api.No, api.OK)
	mustTruth(t, cols, form, row, api.Yes, api.OK)
	row[0] = num(9)
	mustTruth(t, cols, p, row, api.Yes, api.OK)
	l[0] = word("x")
	mustTruth(t, cols, p, row, 0, api.ErrQuery)
	cols[0].Name = "b"
	mustPred(t, cols, form, api.ErrQuery)
	cols[1].Name = "b"
	mustPred(t, cols, form, api.ErrSchema)
}

// TestP23_10BesideOneAnother: nothing is kept from call to call, so many may ask the same at once.
func TestP23_10BesideOneAnother(t *testing.T) {
	r := byChance(22)
	cols := fourColumns()
	var queries []api.Query
	for range 100 {
		queries = append(queries, someQuery(r, cols))
	}
	row := someRow(r, cols)
	var wait sync.WaitGroup
	for range 8 {
		wait.Go(func() {
			for _, q := range queries {
				truth, e := query.Truth(cols, q.Where, row)
				if truth != says(cols, q.Where, row) || e != api.OK || query.Check(cols, q) != api.OK || !slices.Equal(query.Needs(cols, q), readNeeds(cols, q)) || !samePred(query.Plain(q.Where), readForm(q.Where, false)) {
					t.Errorf("%s is answered another way beside others", brief(q))
				}
			}
		})
	}
	wait.Wait()
}

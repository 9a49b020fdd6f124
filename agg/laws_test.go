package agg_test

import (
	"math/big"
	"math/rand/v2"
	"slices"
	"testing"

	"colonnade/agg"
	"colonnade/api"
	"colonnade/chunk"
	"colonnade/sel"
)

// folded is the state of chosen values.
func folded(t *testing.T, ch *chunk.Chunk, s sel.Sel) agg.State {
	t.Helper()
	state, e := agg.Fold(ch, s)
	if e != api.OK {
		t.Fatalf("Fold of %s by %v: %d", brief(ch.Values()), ch.Codec(), e)
	}
	return state
}

// cuts are ends of pieces of n rows by chance, some of them of no rows.
func cuts(r *rand.Rand, n int) []int {
	out := []int{0, n}
	for range r.IntN(7) {
		out = append(out, r.IntN(n+1))
	}
	slices.Sort(out)
	return out
}

// grouped merges states by two and more at a time, in an order by chance, till one is left.
func grouped(r *rand.Rand, l []agg.State) agg.State {
	l = slices.Clone(l)
	for len(l) > 1 {
		r.Shuffle(len(l), func(i, k int) { l[i], l[k] = l[k], l[i] })
		n := 1 + r.IntN(len(l))
		l = append([]agg.State{agg.Merge(l[:n]...)}, l[n:]...)
	}
	return agg.Merge(l...)
}

// TestP22_5Parts: the states of parts, each by some codec, are merged to that of all rows, in any order and grouping.
func TestP22_5Parts(t *testing.T) {
	r := byChance(5)
	for range 1500 {
		kind, n := oneOf(r, []int{api.Int, api.Int, api.Text}), r.IntN(200)
		l, col := someValues(r, kind, n), columnOf(kind)
		s := someSelection(t, r, n)
		want := read(l, s.List())
		var parts []agg.State
		ends := cuts(r, n)
		for i, to := range ends[1:] {
			from := ends[i]
			ch := oneOf(r, chunksOf(t, col, l[from:to], someWidths()...))
			parts = append(parts, folded(t, ch, sel.Cut(s, from, to)))
		}
		for range 4 {
			if got := grouped(r, parts); got != want {
				t.Fatalf("%s in parts up to %v, rows %s: %s; want %s", brief(l), ends, brief(s.List()), brief(got), brief(want))
			}
		}
	}
}

// TestP22_5Chosen: the states of rows that are chosen and of those that are not are merged to that of all.
func TestP22_5Chosen(t *testing.T) {
	for _, x := range samples() {
		n := len(x.list)
		want := read(x.list, sel.Whole(n).List())
		for _, ch := range chunksOf(t, x.col, x.list, 64) {
			for _, s := range selections(t, n) {
				a, b := folded(t, ch, s), folded(t, ch, sel.Not(s))
				if agg.Merge(a, b) != want || agg.Merge(b, a) != want {
					t.Fatalf("%s by %v, rows %s and the others: %s, %s; want %s", brief(x.list), ch.Codec(), brief(s.List()), brief(a), brief(b), brief(want))
				}
			}
		}
	}
}

// TestP22_5None: a state and that of no rows are the state, on either side and however often.
func TestP22_5None(t *testing.T) {
	for _, x := range samples() {
		for _, ch := range chunksOf(t, x.col, x.list) {
			s := folded(t, ch, sel.Whole(len(x.list)))
			none := folded(t, ch, sel.None(len(x.list)))
			if none != agg.None() {
				t.Fatalf("no rows of %s: %s", brief(x.list), brief(none))
			}
			for _, got := range []agg.State{agg.Merge(s), agg.Merge(s, agg.None()), agg.Merge(agg.None(), s), agg.Merge(none, agg.Merge(), s, none)} {
				if got != s {
					t.Fatalf("%s and no rows: %s", brief(s), brief(got))
				}
			}
		}
	}
}

// said is a plain reading of what an item says of the chosen rows, as the page has it.
func said(kind int, l []api.Value, rows []int) (api.Value, api.Errno) {
	var there []api.Value
	sum := new(big.Int)
	for _, i := range rows {
		if l[i].Kind != api.Null {
			there = append(there, l[i])
			sum.Add(sum, big.NewInt(l[i].Int))
		}
	}
	n := int64(len(there))
	switch {
	case kind == api.ItemRows:
		return num(int64(len(rows))), api.OK
	case kind == api.ItemCount:
		return num(n), api.OK
	case n == 0:
		return null, api.OK
	case kind == api.ItemMin:
		return slices.MinFunc(there, order), api.OK
	case kind == api.ItemMax:
		return slices.MaxFunc(there, order), api.OK
	case kind == api.ItemMean:
		f, _ := new(big.Rat).SetFrac(sum, big.NewInt(n)).Float64()
		return real(f), api.OK
	case !sum.IsInt64():
		return null, api.ErrOverflow
	}
	return num(sum.Int64()), api.OK
}

// TestP22_6Items: what Answer says of Fold's state is what the page has each item say of the chosen rows.
func TestP22_6Items(t *testing.T) {
	told := map[api.Errno]int{}
	for _, x := range samples() {
		all := chunksOf(t, x.col, x.list, 64)
		for _, s := range selections(t, len(x.list)) {
			rows := s.List()
			for _, kind := range kinds() {
				want, wantE := said(kind, x.list, rows)
				told[wantE]++
				for _, ch := range all {
					if got, e := agg.Answer(kind, folded(t, ch, s)); !same(got, want) || e != wantE {
						t.Fatalf("the item %d of %s by %v, rows %s: %s, %d; want %s, %d", kind, brief(x.list), ch.Codec(), brief(rows), brief(got), e, brief(want), wantE)
					}
				}
			}
		}
	}
	if told[api.OK] < 10000 || told[api.ErrOverflow] < 100 {
		t.Errorf("too few answers: %v", told)
	}
}

// TestP22_6OnTheWay: sums that leave an Int on the way, and are one at their end, are told.
func TestP22_6OnTheWay(t *testing.T) {
	for _, x := range []struct {
		l    []api.Value
		want api.Value
		e    api.Errno
	}{
		{nums(greatest, greatest, least, least, 2), num(0), api.OK},
		{nums(greatest, 1, -1), num(greatest), api.OK},
		{nums(least, -1, 1), num(least), api.OK},
		{nums(-1, least), null, api.ErrOverflow},
		{nums(1, greatest), null, api.ErrOverflow},
		{slices.Repeat(nums(greatest, least), 100), num(-100), api.OK},
	} {
		for _, ch := range chunksOf(t, allNumbers, x.l, 64) {
			if v, e := agg.Answer(api.ItemSum, folded(t, ch, sel.Whole(len(x.l)))); v != x.want || e != x.e {
				t.Errorf("the sum of %s by %v: %v, %d", brief(x.l), ch.Codec(), v, e)
			}
		}
	}
}

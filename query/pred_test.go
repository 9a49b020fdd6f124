package query_test

import (
	"slices"
	"testing"

	"colonnade/api"
	"colonnade/query"
)

func mustPred(t *testing.T, cols []api.Column, p api.Pred, want api.Errno) {
	t.Helper()
	if e := query.CheckPred(cols, p); e != want {
		t.Fatalf("CheckPred(%s, %s) = %d, not %d", brief(cols), brief(p), e, want)
	}
}

// TestP23_2Schema: the columns are looked at first.
func TestP23_2Schema(t *testing.T) {
	for _, cols := range wrongColumns() {
		for _, p := range []api.Pred{all, lessThree(), not(), {Kind: 9}, compared("z", 9, null)} {
			mustPred(t, cols, p, api.ErrSchema)
		}
	}
}

// TestP23_2Atoms: each atom, alone and at any place of a predicate.
func TestP23_2Atoms(t *testing.T) {
	for _, p := range goodAtoms() {
		for _, q := range []api.Pred{p, not(p), and(p, all), or(all, p, p), not(and(all, or(all, not(p))))} {
			mustPred(t, fourColumns(), q, api.OK)
		}
	}
	for _, p := range badAtoms() {
		for _, q := range []api.Pred{p, not(p), and(p, all), or(all, p, p), not(and(all, or(all, not(p))))} {
			mustPred(t, fourColumns(), q, api.ErrQuery)
		}
	}
}

// TestP23_2Wrong: fields that do not count, too few or too many kids, Kinds that are none; at the head, and within.
func TestP23_2Wrong(t *testing.T) {
	for _, p := range badPreds() {
		mustPred(t, fourColumns(), p, api.ErrQuery)
	}
}

// TestP23_2Kids: PredAnd and PredOr have two or more, PredNot one, PredAll none.
func TestP23_2Kids(t *testing.T) {
	for n := range 6 {
		for kind := api.PredAll; kind <= api.PredNot; kind++ {
			if kind >= api.PredCompare && kind <= api.PredBegins {
				continue
			}
			right := kind == api.PredAll && n == 0 || kind == api.PredNot && n == 1 || (kind == api.PredAnd || kind == api.PredOr) && n >= 2
			want := api.OK
			if !right {
				want = api.ErrQuery
			}
			mustPred(t, fourColumns(), api.Pred{Kind: kind, Kids: slices.Repeat([]api.Pred{lessThree()}, n)}, want)
			mustPred(t, fourColumns(), api.Pred{Kind: kind, Kids: make([]api.Pred, n)}, want)
		}
	}
}

// TestP23_2Nest: 64 deep, by whichever Kinds, at the first kid or the last.
func TestP23_2Nest(t *testing.T) {
	about := []func(p api.Pred) api.Pred{
		func(p api.Pred) api.Pred { return not(p) },
		func(p api.Pred) api.Pred { return and(p, all) },
		func(p api.Pred) api.Pred { return or(lessThree(), all, p) },
		func(p api.Pred) api.Pred { return and(isNull("a"), p, all) },
	}
	for _, kernel := range []api.Pred{all, lessThree(), isNull("s"), in("a")} {
		for _, wrap := range about {
			p := kernel
			for d := 1; d <= 130; d++ {
				want := api.OK
				if d > 64 {
					want = api.ErrQuery
				}
				mustPred(t, fourColumns(), p, want)
				p = wrap(p)
			}
		}
	}
	mustPred(t, fourColumns(), nots(1<<16-1, all), api.ErrQuery)
}

// TestP23_2Preds: 4096 of them, each counted, also those that have kids, in whatever shape they stand.
func TestP23_2Preds(t *testing.T) {
	for _, n := range []int{4094, 4095, 4096, 4097, 1 << 16} {
		want := api.OK
		if n+1 > 4096 {
			want = api.ErrQuery
		}
		mustPred(t, fourColumns(), and(slices.Repeat([]api.Pred{lessThree()}, n)...), want)
		mustPred(t, fourColumns(), or(make([]api.Pred, n)...), want)
	}
	// One above and 63 lots of 65 below are 1 + 63 * 65 = 4096.
	lots := make([]api.Pred, 63)
	for i := range lots {
		lots[i] = or(slices.Repeat([]api.Pred{isNull("a")}, 64)...)
	}
	mustPred(t, fourColumns(), and(lots...), api.OK)
	mustPred(t, fourColumns(), and(append(slices.Clone(lots), all)...), api.ErrQuery)
	mustPred(t, fourColumns(), not(and(lots...)), api.ErrQuery)
	for i := range lots {
		kids := lots[i].Kids
		lots[i].Kids = append(slices.Clone(kids), all)
		mustPred(t, fourColumns(), and(lots...), api.ErrQuery)
		lots[i].Kids = kids[:63]
		mustPred(t, fourColumns(), and(append(slices.Clone(lots), all)...), api.OK)
		lots[i].Kids = kids
	}
	// Nots count too: 2047 of them with an atom each below one PredAnd are 4095, and PredAll makes them 4096.
	turned := slices.Repeat([]api.Pred{not(lessThree())}, 2047)
	mustPred(t, fourColumns(), and(append(turned, all)...), api.OK)
	mustPred(t, fourColumns(), and(append(turned, all, all)...), api.ErrQuery)
}

// TestP23_2Shared: a few lists that stand within one another so often that they are more predicates than can be counted.
func TestP23_2Shared(t *testing.T) {
	p := all
	for d := 1; d <= 63; d++ {
		p = and(p, p)
		want := api.OK
		if d > 11 {
			want = api.ErrQuery
		}
		// d levels of PredAnds are 2^(d+1) - 1 predicates.
		mustPred(t, fourColumns(), p, want)
	}
}

// TestP23_2ByChance: as the plain reading has it.
func TestP23_2ByChance(t *testing.T) {
	r := byChance(2)
	passed := 0
	for range 20000 {
		p := somePred(r, fourColumns(), 1+r.IntN(6))
		mustPred(t, fourColumns(), p, api.OK)
		p = spoilt(r, p)
		mustPred(t, fourColumns(), p, readPred(fourColumns(), p))
		p = wildPred(r, 1+r.IntN(4))
		if readPred(fourColumns(), p) == api.OK {
			passed++
		}
		mustPred(t, fourColumns(), p, readPred(fourColumns(), p))
	}
	if passed < 500 {
		t.Fatalf("too few wild ones that may be: %d", passed)
	}
}

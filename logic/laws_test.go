package logic_test

import (
	"slices"
	"testing"

	"colonnade/api"
	"colonnade/bits"
	"colonnade/logic"
	"colonnade/query"
)

// where is both sets of a row group.
func (x table) where(t *testing.T, g int, p api.Pred) (yes, unknown *bits.Set) {
	t.Helper()
	yes, unknown, _, e := logic.Where(x.im, g, p)
	if e != api.OK {
		t.Fatalf("Where of row group %d, %s: %d", g, brief(p), e)
	}
	return yes, unknown
}

func sameSet(a, b *bits.Set) bool {
	return a != nil && b != nil && a.Len() == b.Len() && slices.Equal(a.Words(), b.Words())
}

// mustBeSame holds two predicates to the same sets in each row group.
func (x table) mustBeSame(t *testing.T, p, q api.Pred) {
	t.Helper()
	for g := range x.l.Groups {
		yes, unknown := x.where(t, g, p)
		y, u := x.where(t, g, q)
		if !sameSet(yes, y) || !sameSet(unknown, u) {
			t.Fatalf("row group %d: %s comes to %x, %x; %s to %x, %x", g, brief(p), yes.Words(), unknown.Words(), brief(q), y.Words(), u.Words())
		}
	}
}

// TestP25_2Truth: of each row what layer 23's Truth says.
func TestP25_2Truth(t *testing.T) {
	r := byChance(20)
	for _, x := range someTables(t, 20, 2) {
		for range 60 {
			p := somePred(r, fourColumns(), 1+r.IntN(6))
			for g := range x.l.Groups {
				yes, unknown := x.where(t, g, p)
				for i, row := range x.rows(g) {
					truth, e := query.Truth(fourColumns(), p, row)
					if e != api.OK || yes.Get(i) != (truth == api.Yes) || unknown.Get(i) != (truth == api.Maybe) {
						t.Fatalf("%s of %s: %v, %v; layer 23 says %d, %d", brief(p), brief(row), yes.Get(i), unknown.Get(i), truth, e)
					}
				}
			}
		}
	}
}

// TestP25_2Codecs: of the same values the same sets, and the same chunks opened, whatever the codecs.
func TestP25_2Codecs(t *testing.T) {
	r := byChance(21)
	for _, n := range lengths() {
		tab := someTable(r, fourColumns(), n)
		plain := mustImage(t, tab, plainLayout(tab, n))
		for range 12 {
			x := mustImage(t, tab, fittingLayout(r, tab, n))
			for range 40 {
				p := somePred(r, fourColumns(), 1+r.IntN(6))
				yes, unknown, opened, _ := logic.Where(plain.im, 0, p)
				y, u, o, e := logic.Where(x.im, 0, p)
				if e != api.OK || !sameSet(y, yes) || !sameSet(u, unknown) || !slices.Equal(o, opened) {
					t.Fatalf("%s by %v: %x, %x, %v, %d; plain: %x, %x, %v", brief(p), x.l.Codecs, y.Words(), u.Words(), o, e, yes.Words(), unknown.Words(), opened)
				}
			}
		}
	}
}

// TestP25_2Cuts: the sets of the row groups, one behind the other, are those of the table in one piece.
func TestP25_2Cuts(t *testing.T) {
	r := byChance(22)
	for _, n := range lengths() {
		tab := someTable(r, fourColumns(), n)
		whole := mustImage(t, tab, plainLayout(tab, n))
		for range 10 {
			x := mustImage(t, tab, fittingLayout(r, tab, someCut(r, n)...))
			for range 30 {
				p := somePred(r, fourColumns(), 1+r.IntN(6))
				var yes, unknown []*bits.Set
				for g := range x.l.Groups {
					y, u := x.where(t, g, p)
					yes, unknown = append(yes, y), append(unknown, u)
				}
				y, u := whole.where(t, 0, p)
				allYes, _ := bits.Join(yes...)
				allUnknown, _ := bits.Join(unknown...)
				if !sameSet(allYes, y) || !sameSet(allUnknown, u) {
					t.Fatalf("%s cut as %v: %x, %x; whole %x, %x", brief(p), x.l.Groups, allYes.Words(), allUnknown.Words(), y.Words(), u.Words())
				}
			}
		}
	}
}

// TestP25_2Apart: no row is in both sets.
func TestP25_2Apart(t *testing.T) {
	r := byChance(23)
	for _, x := range someTables(t, 23, 1) {
		for range 100 {
			p := somePred(r, fourColumns(), 1+r.IntN(6))
			for g := range x.l.Groups {
				yes, unknown := x.where(t, g, p)
				if both, e := yes.And(unknown); e != api.OK || both.Count() != 0 {
					t.Fatalf("%s: %d rows in both, %d", brief(p), both.Count(), e)
				}
			}
		}
	}
}

// TestP25_3Not: yes and no exchanged, and the same unknown.
func TestP25_3Not(t *testing.T) {
	r := byChance(24)
	for _, x := range someTables(t, 24, 1) {
		for range 100 {
			p := somePred(r, fourColumns(), 1+r.IntN(6))
			for g := range x.l.Groups {
				yes, unknown := x.where(t, g, p)
				y, u := x.where(t, g, not(p))
				known, _ := yes.Or(unknown)
				if !sameSet(y, known.Not()) || !sameSet(u, unknown) {
					t.Fatalf("%s: %x, %x; its not %x, %x", brief(p), yes.Words(), unknown.Words(), y.Words(), u.Words())
				}
			}
			x.mustBeSame(t, not(not(p)), p)
			x.mustBeSame(t, nots(5, p), not(p))
		}
	}
}

// TestP25_3Orders: kids in any order and grouping come to the same sets, each a second time too.
func TestP25_3Orders(t *testing.T) {
	r := byChance(25)
	for _, x := range someTables(t, 25, 1) {
		for range 40 {
			var kids []api.Pred
			for range 3 + r.IntN(4) {
				kids = append(kids, somePred(r, fourColumns(), 1+r.IntN(4)))
			}
			for _, kind := range []int{api.PredAnd, api.PredOr} {
				of := func(l ...api.Pred) api.Pred { return api.Pred{Kind: kind, Kids: l} }
				p := of(kids...)
				mixed := slices.Clone(kids)
				r.Shuffle(len(mixed), func(i, k int) { mixed[i], mixed[k] = mixed[k], mixed[i] })
				x.mustBeSame(t, p, of(mixed...))
				x.mustBeSame(t, p, of(of(kids[:2]...), of(append(slices.Clone(kids[2:]), kids[0])...)))
				x.mustBeSame(t, p, of(p, p))
			}
		}
	}
}

// TestP25_3Morgan: not of and is or of the nots, and the reverse; each goes through the other.
func TestP25_3Morgan(t *testing.T) {
	r := byChance(26)
	for _, x := range someTables(t, 26, 1) {
		for range 60 {
			p, q, o := somePred(r, fourColumns(), 1+r.IntN(4)), somePred(r, fourColumns(), 1+r.IntN(4)), somePred(r, fourColumns(), 1+r.IntN(4))
			x.mustBeSame(t, not(and(p, q, o)), or(not(p), not(q), not(o)))
			x.mustBeSame(t, not(or(p, q, o)), and(not(p), not(q), not(o)))
			x.mustBeSame(t, and(p, or(q, o)), or(and(p, q), and(p, o)))
			x.mustBeSame(t, or(p, and(q, o)), and(or(p, q), or(p, o)))
			x.mustBeSame(t, and(all, p), p)
			x.mustBeSame(t, or(not(all), p), p)
			x.mustBeSame(t, or(p, all), all)
			x.mustBeSame(t, and(p, not(all)), not(all))
		}
	}
}

// TestP25_3Plain: the plain form of layer 23 comes to the same sets.
func TestP25_3Plain(t *testing.T) {
	r := byChance(27)
	for _, x := range someTables(t, 27, 1) {
		for range 100 {
			p := somePred(r, fourColumns(), 1+r.IntN(6))
			x.mustBeSame(t, query.Plain(p), p)
		}
	}
}

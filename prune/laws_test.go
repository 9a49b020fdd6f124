package prune_test

import (
	"slices"
	"testing"

	"colonnade/api"
	"colonnade/prune"
	"colonnade/query"
	"colonnade/zone"
)

// TestP26_5: what a predicate says of a row is among its possible truths, and no row that is chosen is in a row group that is skipped.
func TestP26_5(t *testing.T) {
	r := byChance(10)
	skipped := 0
	for _, x := range someTables(t, 10, 4) {
		for range 150 {
			p := somePred(r, fourColumns(), 1+r.IntN(5))
			o := oneOf(r, switches())
			for g := range x.l.Groups {
				s, e := prune.Can(x.im, g, p, o)
				skip, se := prune.Skip(x.im, g, p, o)
				if skip {
					skipped++
				}
				for _, row := range x.rows(g) {
					truth, te := query.Truth(fourColumns(), p, row)
					if e != api.OK || se != api.OK || te != api.OK || !has(s, truth) || skip && truth == api.Yes {
						t.Fatalf("%s of %s, %v: %d, possible %v, skipped %v (%d, %d, %d)", brief(p), brief(row), o, truth, s, skip, e, se, te)
					}
				}
			}
		}
	}
	if skipped < 1000 {
		t.Errorf("%d row groups were skipped alone", skipped)
	}
}

// TestP26_5Atoms: of each atom and every record that is sound of a few values.
func TestP26_5Atoms(t *testing.T) {
	r := byChance(11)
	for _, c := range fourColumns() {
		l := fewValues(c.Type)
		if c.Null {
			l = append(l, null)
		}
		for range 400 {
			var values []api.Value
			for range 1 + r.IntN(4) {
				values = append(values, oneOf(r, l))
			}
			z := loose(r)(c, values)
			if !zone.Sound(c, values, z) {
				t.Fatalf("%s is not sound of %s", brief(z), brief(values))
			}
			for _, p := range atomsOf(c, fewValues(c.Type)[:5]) {
				for _, o := range switches()[:4] {
					s, e := prune.Atom(c, len(values), z, p, o)
					for _, v := range values {
						if e != api.OK || !has(s, atomSays(p, v)) {
							t.Fatalf("%s of %s, %v, by %s: possible %v, %d", brief(p), brief(v), o, brief(z), s, e)
						}
					}
				}
			}
		}
	}
}

// fewer are two ways in which switches stand, the first of which has one more on than the second.
func fewer() [][2]api.Options {
	zones, blooms, both := api.Options{Zones: true}, api.Options{Blooms: true}, api.Options{Zones: true, Blooms: true}
	return [][2]api.Options{{zones, {}}, {blooms, {}}, {both, zones}, {both, blooms}}
}

// TestP26_6: with a switch on no truth is possible that is not with it off, of atoms by any record that may be, and of predicates.
func TestP26_6(t *testing.T) {
	for _, c := range fourColumns() {
		l := fewValues(c.Type)
		for _, z := range goodZones(c, l[:5]) {
			for _, z.Bloom = range filters(l)[:8] {
				for _, p := range atomsOf(c, l[1:4]) {
					for _, o := range fewer() {
						on, _ := prune.Atom(c, 3, z, p, o[0])
						off, e := prune.Atom(c, 3, z, p, o[1])
						if !within(on, off) || e != api.OK {
							t.Fatalf("%s by %s: %v with %v, %v with %v", brief(p), brief(z), on, o[0], off, o[1])
						}
					}
				}
			}
		}
	}
	r := byChance(12)
	for _, x := range someTables(t, 12, 2) {
		for range 200 {
			p := somePred(r, fourColumns(), 1+r.IntN(5))
			for g := range x.l.Groups {
				for _, o := range fewer() {
					on, _ := prune.Can(x.im, g, p, o[0])
					off, e := prune.Can(x.im, g, p, o[1])
					if !within(on, off) || e != api.OK {
						t.Fatalf("%s: %v with %v, %v with %v", brief(p), on, o[0], off, o[1])
					}
				}
			}
		}
	}
}

// TestP26_6OtherSwitches: those that do not count say nothing.
func TestP26_6OtherSwitches(t *testing.T) {
	r := byChance(13)
	for _, x := range someTables(t, 13, 1) {
		for range 100 {
			p := somePred(r, fourColumns(), 1+r.IntN(5))
			for g := range x.l.Groups {
				for _, o := range switches()[:4] {
					with := o
					with.Reorder, with.Workers = true, r.IntN(200)-100
					s, _ := prune.Can(x.im, g, p, o)
					again, e := prune.Can(x.im, g, p, with)
					if s != again || e != api.OK {
						t.Fatalf("%s: %v with %v, %v with %v", brief(p), s, o, again, with)
					}
				}
			}
		}
	}
}

// TestP26_7Preds: kids in any order and grouping have the same possible truths; not of and is or of the nots.
func TestP26_7Preds(t *testing.T) {
	r := byChance(14)
	for _, x := range someTables(t, 14, 1) {
		for range 60 {
			var kids, nots []api.Pred
			for range 3 + r.IntN(3) {
				p := somePred(r, fourColumns(), 1+r.IntN(3))
				kids, nots = append(kids, p), append(nots, not(p))
			}
			mixed := slices.Clone(kids)
			r.Shuffle(len(mixed), func(i, k int) { mixed[i], mixed[k] = mixed[k], mixed[i] })
			o := oneOf(r, switches())
			for g := range x.l.Groups {
				same := func(p, q api.Pred) {
					a, _ := prune.Can(x.im, g, p, o)
					b, e := prune.Can(x.im, g, q, o)
					if a != b || e != api.OK {
						t.Fatalf("%s: %v; %s: %v", brief(p), a, brief(q), b)
					}
				}
				same(and(kids...), and(mixed...))
				same(or(kids...), or(mixed...))
				same(and(kids...), and(and(kids[:2]...), and(kids[1:]...), kids[0]))
				same(not(and(kids...)), or(nots...))
				same(not(or(kids...)), and(nots...))
				same(not(not(kids[0])), kids[0])
			}
		}
	}
}

// TestP26_8: rows that are all alike, without nulls, and the record that layer 14 says: one truth of each atom.
func TestP26_8(t *testing.T) {
	for _, c := range fourColumns() {
		l := append(fewValues(c.Type), edgeValues(c.Type)[:5]...)
		for _, v := range l {
			for _, n := range []int{1, 2, 5} {
				values := slices.Repeat(list(v), n)
				for _, size := range []int{0, 8, 64} {
					z, _ := zone.Of(c, values, size)
					for _, p := range atomsOf(c, fewValues(c.Type)) {
						for _, o := range []api.Options{{Zones: true}, {Zones: true, Blooms: true}} {
							s, e := prune.Atom(c, n, z, p, o)
							if len(ranks(s)) != 1 || !has(s, atomSays(p, v)) || e != api.OK {
								t.Fatalf("%s of %d times %s, %v: %v, %d", brief(p), n, brief(v), o, s, e)
							}
						}
					}
				}
			}
		}
	}
}

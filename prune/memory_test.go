package prune_test

import (
	"math"
	"slices"
	"sync"
	"testing"

	"colonnade/api"
	"colonnade/prune"
)

// roomy is the same predicate in other memory, each of its lists with room in which something stands.
func roomy(p api.Pred) api.Pred {
	values := append(slices.Clone(p.List), num(5), api.Value{Kind: 77, Int: 77})
	var kids []api.Pred
	for _, k := range p.Kids {
		kids = append(kids, roomy(k))
	}
	kids = append(kids, isNull("sentinel"), api.Pred{Kind: 77})
	p.List, p.Kids = values[:len(p.List)], kids[:len(p.Kids)]
	return p
}

// kept is a copy of a predicate, the room of its lists with it.
func kept(p api.Pred) api.Pred {
	p.List = slices.Clone(p.List[:cap(p.List)])
	kids := slices.Clone(p.Kids[:cap(p.Kids)])
	for i, k := range kids {
		kids[i] = kept(k)
	}
	p.Kids = kids
	return p
}

// sameValue is whether two values are the same to the last bit.
func sameValue(a, b api.Value) bool {
	return a.Kind == b.Kind && a.Int == b.Int && a.Text == b.Text && math.Float64bits(a.Real) == math.Float64bits(b.Real)
}

// sameRoom is whether a predicate, with all its room, is as it was when kept took it.
func sameRoom(p, was api.Pred) bool {
	return p.Kind == was.Kind && p.Column == was.Column && p.Op == was.Op && sameValue(p.Value, was.Value) && slices.EqualFunc(p.List[:cap(p.List)], was.List, sameValue) && slices.EqualFunc(p.Kids[:cap(p.Kids)], was.Kids, sameRoom)
}

// TestMemoryOfPreds: neither a predicate nor the room of its lists is changed, nor is what stands there looked at.
func TestMemoryOfPreds(t *testing.T) {
	r := byChance(20)
	preds := badPreds()
	for range 300 {
		preds = append(preds, somePred(r, fourColumns(), 1+r.IntN(5)))
	}
	x := cut(t, someTable(r, fourColumns(), 5), []int{3, 0, 2}, loose(r))
	for _, p := range preds {
		given := roomy(p)
		was := kept(given)
		if predMayBe(fourColumns(), p) {
			x.mustAnswerAll(t, given)
		} else {
			mustRefuse(t, x.im, 0, given, api.ErrQuery)
		}
		if !sameRoom(given, was) {
			t.Fatalf("asking has changed %s", brief(given))
		}
	}
}

// TestMemoryOfRecords: neither a record's filter nor the room behind it is changed, kept or, the room, looked at.
func TestMemoryOfRecords(t *testing.T) {
	for _, c := range fourColumns() {
		l := fewValues(c.Type)
		for _, b := range filters(l)[1:8] {
			room := append(slices.Clone(b), 255, 255, 255)
			z := api.Zone{Min: l[1], Max: l[4], Bloom: room[:len(b)]}
			for _, p := range atomsOf(c, l[1:4]) {
				given := roomy(p)
				was := kept(given)
				for _, o := range switches() {
					mustAtom(t, c, 3, z, given, o)
				}
				if !slices.Equal(room, append(slices.Clone(b), 255, 255, 255)) || !sameRoom(given, was) {
					t.Fatalf("asking has changed the filter, or %s", brief(given))
				}
			}
			clear(room)
			mustAtom(t, c, 3, z, compared(c.Name, api.Eq, l[2]), api.Options{Blooms: true})
		}
	}
}

// TestMemoryNotKept: the next call sees a list as it is then.
func TestMemoryNotKept(t *testing.T) {
	x := small(t)
	values := list(num(7), num(8))
	p := or(in("a", values...), not(all))
	p.Kids[0].List = values
	x.mustAnswerAll(t, p)
	values[0] = num(1)
	x.mustAnswerAll(t, p)
	p.Kids[1] = all
	x.mustAnswerAll(t, p)
	values[1] = word("x")
	mustRefuse(t, x.im, 0, p, api.ErrQuery)
}

// TestMemoryBesideOneAnother: many may ask one image at once.
func TestMemoryBesideOneAnother(t *testing.T) {
	r := byChance(21)
	x := cut(t, someTable(r, fourColumns(), 9), []int{3, 0, 6}, loose(r))
	var preds []api.Pred
	for range 200 {
		preds = append(preds, somePred(r, fourColumns(), 1+r.IntN(5)))
	}
	var wait sync.WaitGroup
	for range 8 {
		wait.Go(func() {
			for _, p := range preds {
				for g, n := range x.l.Groups {
					for _, o := range switches() {
						if s, e := prune.Can(x.im, g, p, o); s != ofPred(fourColumns(), n, x.zones[g], p, o) || e != api.OK {
							t.Errorf("%s beside others: %v, %d", brief(p), s, e)
						}
					}
				}
			}
		})
	}
	wait.Wait()
}

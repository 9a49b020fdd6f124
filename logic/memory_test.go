package logic_test

import (
	"math"
	"slices"
	"sync"
	"testing"

	"colonnade/api"
	"colonnade/bits"
	"colonnade/logic"
)

// roomy is the same predicate in other memory, each of its lists with room in which something stands.
func roomy(p api.Pred) api.Pred {
	values := append(slices.Clone(p.List), num(5), api.Value{Kind: 77, Int: 77})
	var kids []api.Pred
	for _, k := range p.Kids {
		kids = append(kids, roomy(k))
	}
	kids = append(kids, isNull("sentinel"), api.Pred{Kind: 77})
	p.List, p.Kids = values[:len(p.List)], kids[:len(p.Kids)]
	return p
}

// kept is a copy of a predicate, the room of its lists with it.
func kept(p api.Pred) api.Pred {
	p.List = slices.Clone(p.List[:cap(p.List)])
	kids := slices.Clone(p.Kids[:cap(p.Kids)])
	for i, k := range kids {
		kids[i] = kept(k)
	}
	p.Kids = kids
	return p
}

// sameValue is whether two values are the same to the last bit.
func sameValue(a, b api.Value) bool {
	return a.Kind == b.Kind && a.Int == b.Int && a.Text == b.Text && math.Float64bits(a.Real) == math.Float64bits(b.Real)
}

// sameRoom is whether a predicate, with all its room, is as it was when kept took it.
func sameRoom(p, was api.Pred) bool {
	return p.Kind == was.Kind && p.Column == was.Column && p.Op == was.Op && sameValue(p.Value, was.Value) && slices.EqualFunc(p.List[:cap(p.List)], was.List, sameValue) && slices.EqualFunc(p.Kids[:cap(p.Kids)], was.Kids, sameRoom)
}

// memoryPreds are such as come to sets in every way: none put together, one exchanged, several, and settled early.
func memoryPreds() []api.Pred {
	r := byChance(30)
	out := append(goodAtoms(), all)
	for range 100 {
		out = append(out, somePred(r, fourColumns(), 1+r.IntN(5)))
	}
	for _, p := range slices.Clone(out) {
		out = append(out, not(p), not(not(p)), and(p, p), or(p, p), and(p, all), or(not(all), p), or(all, p), and(not(all), p))
	}
	return out
}

func memoryTables(t *testing.T) []table {
	t.Helper()
	r := byChance(31)
	var out []table
	for _, n := range []int{0, 1, 64, 70} {
		tab := someTable(r, fourColumns(), n)
		out = append(out, mustImage(t, tab, fittingLayout(r, tab, n)), mustImage(t, tab, fittingLayout(r, tab, n/2, 0, n-n/2)))
	}
	return out
}

// spoil turns every number of a set.
func spoil(s *bits.Set) {
	for i := range s.Len() {
		s.Put(i, !s.Get(i))
	}
}

// TestP25_5SetsAreNew: whatever is put into one set, the other one of the answer, other answers and the image stay as they are.
func TestP25_5SetsAreNew(t *testing.T) {
	for _, x := range memoryTables(t) {
		for _, p := range memoryPreds() {
			for g := range x.l.Groups {
				yes, unknown := x.where(t, g, p)
				again, unknownAgain := x.where(t, g, p)
				wasYes, wasUnknown := yes.Clone(), unknown.Clone()
				spoil(yes)
				if !sameSet(unknown, wasUnknown) || !sameSet(again, wasYes) || !sameSet(unknownAgain, wasUnknown) {
					t.Fatalf("%s: a set of Yes was turned, and another one with it", brief(p))
				}
				spoil(unknown)
				if !sameSet(yes, wasYes.Not()) || !sameSet(again, wasYes) || !sameSet(unknownAgain, wasUnknown) {
					t.Fatalf("%s: a set of Maybe was turned, and another one with it", brief(p))
				}
				x.mustAnswer(t, g, p)
			}
		}
	}
}

// TestP25_5ListsAreNew: nor does a list that is written over, or the room behind it, reach another answer.
func TestP25_5ListsAreNew(t *testing.T) {
	for _, x := range memoryTables(t) {
		for _, p := range memoryPreds() {
			_, _, one, _ := logic.Where(x.im, 0, p)
			_, _, other, _ := logic.Where(x.im, 0, p)
			was := slices.Clone(other)
			for i := range one[:cap(one)] {
				one[:cap(one)][i] = 99
			}
			if !slices.Equal(other, was) {
				t.Fatalf("%s: a list was written over, and has become %v elsewhere", brief(p), other)
			}
			x.mustAnswer(t, 0, p)
		}
	}
}

// TestP25_5Unchanged: neither a predicate nor the room of its lists is changed, nor is what stands there looked at.
func TestP25_5Unchanged(t *testing.T) {
	for _, x := range memoryTables(t) {
		for _, p := range memoryPreds() {
			given := roomy(p)
			was := kept(given)
			x.mustAnswerAll(t, given)
			if !sameRoom(given, was) {
				t.Fatalf("asking has changed %s", brief(given))
			}
		}
		for _, p := range badPreds() {
			given := roomy(p)
			was := kept(given)
			mustRefuse(t, x.im, 0, given, api.ErrQuery)
			if !sameRoom(given, was) {
				t.Fatalf("asking has changed %s", brief(given))
			}
		}
	}
}

// TestP25_5SharedLists: a predicate that has one list at several places is asked as if each were its own.
func TestP25_5SharedLists(t *testing.T) {
	values := list(num(1), num(3), num(2))[:2]
	kids := []api.Pred{in("a", values...), between("n", values...), isNull("a")}[:2]
	of := func(kind int) api.Pred { return api.Pred{Kind: kind, Kids: kids} }
	for _, x := range memoryTables(t) {
		for _, p := range []api.Pred{and(of(6), of(7)), or(of(6), of(6), not(of(7))), not(or(of(6), of(7), kids[0]))} {
			x.mustAnswerAll(t, p)
		}
	}
	if !slices.Equal(values[:3], list(num(1), num(3), num(2))) || kids[:3][2].Kind != api.PredNull {
		t.Fatal("asking has changed a list")
	}
}

// TestP25_5NotKept: sets stay when a list is written over behind the call, and the next call sees the list as it is then.
func TestP25_5NotKept(t *testing.T) {
	x := exampleTable(t)
	values := list(num(5), num(5))
	p := and(in("a", values...), all)
	p.Kids[0].List = values
	yes, unknown := x.where(t, 0, p)
	wasYes, wasUnknown := yes.Clone(), unknown.Clone()
	values[0], values[1] = num(7), num(7)
	if !sameSet(yes, wasYes) || !sameSet(unknown, wasUnknown) {
		t.Fatalf("a list was written over: %x, %x", yes.Words(), unknown.Words())
	}
	x.mustAnswer(t, 0, p)
	p.Kids[1] = not(all)
	x.mustAnswer(t, 0, p)
	values[1] = word("x")
	mustRefuse(t, x.im, 0, p, api.ErrQuery)
}

// TestP25_5BesideOneAnother: nothing is kept from call to call, so many may ask one image at once.
func TestP25_5BesideOneAnother(t *testing.T) {
	x := memoryTables(t)[7]
	preds := memoryPreds()[:150]
	var wait sync.WaitGroup
	for range 8 {
		wait.Go(func() {
			for _, p := range preds {
				for g := range x.l.Groups {
					yes, unknown, _, e := logic.Where(x.im, g, p)
					for i, row := range x.rows(g) {
						if want := says(fourColumns(), p, row); e != api.OK || yes.Get(i) != (want == api.Yes) || unknown.Get(i) != (want == api.Maybe) {
							t.Errorf("%s beside others: %v, %v, %d; want %d", brief(p), yes.Get(i), unknown.Get(i), e, want)
						}
					}
				}
			}
		})
	}
	wait.Wait()
}

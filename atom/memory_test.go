package atom_test

import (
	"slices"
	"sync"
	"testing"

	"colonnade/api"
	"colonnade/atom"
)

// spoilt is a value that no test has.
func spoilt() api.Value { return api.Value{Kind: 77, Int: 77, Text: "spoilt"} }

// roomy is a predicate whose lists have room, and the whole of that room.
func roomy(p api.Pred) (given api.Pred, values []api.Value, kids []api.Pred) {
	values = append(slices.Clone(p.List), num(5), word("qu"), spoilt())
	kids = append(slices.Clone(p.Kids), isNull("spoilt"), api.Pred{Kind: 77})
	given = p
	given.List, given.Kids = values[:len(p.List)], kids[:len(p.Kids)]
	return given, values, kids
}

// roomyColumns are some whose room has the columns that are missing among them.
func roomyColumns() (given, whole []api.Column) {
	whole = append(twoColumns(), api.Column{Name: "z", Type: api.Int}, api.Column{Name: "", Type: api.Text}, api.Column{Name: "a", Type: api.Text})
	return whole[:2], whole
}

// TestP18_8Unchanged: no call changes a list or what stands behind it, nor looks at that.
func TestP18_8Unchanged(t *testing.T) {
	preds := slices.Concat(coreOf("a"), coreOf("t"), coreOf("z"), coreOf(""))
	for _, p := range coreOf("a") {
		preds = append(preds, filled(p)...)
	}
	for _, l := range lists() {
		preds = append(preds, in("a", l...), between("a", l...))
	}
	for _, p := range preds {
		given, values, kids := roomy(p)
		cols, whole := roomyColumns()
		wasValues, wasKids, wasWhole := slices.Clone(values), slices.Clone(kids), slices.Clone(whole)
		mustCheck(t, cols, given, plainCheck(twoColumns(), p))
		for _, v := range list(num(5), word("qu"), spoilt(), null, num(3)) {
			mustSay(t, given, v, plainTest(p, v))
		}
		want, is := plainNot(p)
		mustNot(t, given, want, is)
		lo, hi, ok := plainBounds(p)
		mustBound(t, given, lo, hi, ok)
		if !slices.EqualFunc(values, wasValues, sameValue) || !slices.EqualFunc(kids, wasKids, samePred) || !slices.Equal(whole, wasWhole) {
			t.Fatalf("asking has changed what was handed in: %s, %s, %s", brief(values), brief(kids), brief(whole))
		}
	}
}

// TestP18_8Opposite: an opposite has no room of the atom's, nor of another one's: what is put behind its lists is seen nowhere else.
func TestP18_8Opposite(t *testing.T) {
	for _, op := range ops() {
		given, values, kids := roomy(compared("a", op, num(5)))
		wasValues, wasKids := slices.Clone(values), slices.Clone(kids)
		q, _ := atom.Not(given)
		again, _ := atom.Not(given)
		one, other := append(q.List, num(1)), append(again.List, num(2))
		firstKid, otherKid := append(q.Kids, isNull("x")), append(again.Kids, isNull("y"))
		if one[0] != num(1) || other[0] != num(2) || firstKid[0].Column != "x" || otherKid[0].Column != "y" {
			t.Fatal("two opposites share room")
		}
		if !slices.Equal(values, wasValues) || !slices.EqualFunc(kids, wasKids, samePred) {
			t.Fatalf("an opposite shares room with the atom: %s, %s", brief(values), brief(kids))
		}
		want, _ := plainNot(compared("a", op, num(5)))
		mustNot(t, given, want, true)
	}
}

// TestP18_8NotKept: bounds stay when the list is written over, and the next call sees the list as it is then.
func TestP18_8NotKept(t *testing.T) {
	for _, kind := range []int{api.PredIn, api.PredBetween} {
		l := nums(3, 7)
		p := api.Pred{Kind: kind, Column: "a", List: l}
		cols := twoColumns()
		mustCheck(t, cols, p, api.OK)
		mustSay(t, p, num(3), api.Yes)
		lo, hi, ok := atom.Bounds(p)
		l[0], l[1] = word("b"), word("c")
		if lo != num(3) || hi != num(7) || !ok {
			t.Fatalf("behind a list that was written over: %s, %s", brief(lo), brief(hi))
		}
		mustCheck(t, cols, p, api.ErrValue)
		cols[0].Type = api.Text
		mustCheck(t, cols, p, api.OK)
		cols[0].Name = "b"
		mustCheck(t, cols, p, api.ErrColumn)
		mustSay(t, p, num(3), api.No)
		mustSay(t, p, word("c"), api.Yes)
		mustBound(t, p, word("b"), word("c"), true)
		l[1] = null
		mustNotBound(t, p)
	}
}

// TestP18_8BesideOneAnother: nothing is kept from call to call, so many may ask at once of the same atoms.
func TestP18_8BesideOneAnother(t *testing.T) {
	preds, values, cols := coreOf("t"), goodValues(), twoColumns()
	var wait sync.WaitGroup
	for range 8 {
		wait.Go(func() {
			for _, p := range preds {
				lo, hi, ok := plainBounds(p)
				if l, h, is := atom.Bounds(p); l != lo || h != hi || is != ok || atom.Check(cols, p) != plainCheck(cols, p) {
					t.Errorf("%s beside others: %s, %s", brief(p), brief(l), brief(h))
				}
				for _, v := range values {
					if atom.Test(p, v) != plainTest(p, v) {
						t.Errorf("Test(%s, %s) beside others", brief(p), brief(v))
					}
				}
			}
		})
	}
	wait.Wait()
}

package atom_test

import (
	"slices"
	"testing"

	"colonnade/api"
	"colonnade/atom"
	"colonnade/value"
)

// typed are the two columns of the laws, with nulls, and their values, Null first.
func typed() map[api.Column][]api.Value {
	return map[api.Column][]api.Value{
		{Name: "a", Type: api.Int, Null: true}:  append(list(null), intValues()...),
		{Name: "t", Type: api.Text, Null: true}: append(list(null), textValues()...),
	}
}

// TestP18_5Not: where there is an opposite, it says the not of what the atom says.
func TestP18_5Not(t *testing.T) {
	for col, values := range typed() {
		for _, p := range goodPreds(col.Name, col.Type) {
			mustCheck(t, []api.Column{col}, p, api.OK)
			q, is := atom.Not(p)
			if is != (p.Kind == api.PredCompare) {
				t.Fatalf("Not(%s): %v", brief(p), is)
			}
			for _, v := range values {
				if is {
					mustSay(t, q, v, value.Not(atom.Test(p, v)))
				}
			}
			if is {
				mustCheck(t, []api.Column{col}, q, api.OK)
			}
		}
	}
}

// TestP18_5OneOfThree: just one of Lt, Eq and Gt says Yes of a value that is not Null.
func TestP18_5OneOfThree(t *testing.T) {
	for col, values := range typed() {
		for _, v := range values[1:] {
			for _, w := range values[1:] {
				yes := 0
				for _, op := range []int{api.Lt, api.Eq, api.Gt} {
					if atom.Test(compared(col.Name, op, w), v) == api.Yes {
						yes++
					}
				}
				if yes != 1 {
					t.Fatalf("%s and %s: %d of three", brief(v), brief(w), yes)
				}
			}
		}
	}
}

// TestP18_5Between: what the And of Ge its first and Le its second value says.
func TestP18_5Between(t *testing.T) {
	for col, values := range typed() {
		for _, first := range values[1:] {
			for _, second := range values[1:] {
				ge, le := compared(col.Name, api.Ge, first), compared(col.Name, api.Le, second)
				for _, v := range values {
					mustSay(t, between(col.Name, first, second), v, value.And(atom.Test(ge, v), atom.Test(le, v)))
				}
			}
		}
	}
}

// TestP18_5In: what the Or of Eq each of its values says; of none No, or Maybe of Null.
func TestP18_5In(t *testing.T) {
	for col, values := range typed() {
		for _, p := range goodPreds(col.Name, col.Type) {
			if p.Kind != api.PredIn || len(p.List) == 0 {
				continue
			}
			for _, v := range values {
				var each []api.Truth
				for _, w := range p.List {
					each = append(each, atom.Test(compared(col.Name, api.Eq, w), v))
				}
				mustSay(t, p, v, value.Or(each...))
			}
		}
		mustSay(t, in(col.Name), null, api.Maybe)
		for _, v := range values[1:] {
			mustSay(t, in(col.Name), v, api.No)
		}
	}
}

// TestP18_5Maybe: PredNull is never Maybe, every other atom is so of Null, and of Null alone.
func TestP18_5Maybe(t *testing.T) {
	for col, values := range typed() {
		for _, p := range goodPreds(col.Name, col.Type) {
			for _, v := range values {
				maybe := atom.Test(p, v) == api.Maybe
				if maybe != (v.Kind == api.Null && p.Kind != api.PredNull) {
					t.Fatalf("Test(%s, %s): Maybe is %v", brief(p), brief(v), maybe)
				}
			}
		}
	}
}

// nearTexts are short texts of few bytes, all of them.
func nearTexts() []string {
	out := []string{""}
	last := out
	for range 3 {
		var next []string
		for _, s := range last {
			for _, c := range []string{"\x00", "a", "\xff"} {
				next = append(next, s+c)
			}
		}
		out, last = append(out, next...), next
	}
	return append(out, longest('a'), longest(0xff), longest('a')[1:]+"b", longest('a')[2:])
}

// TestP18_6Begins: what begins with a text stands together, from that text on.
func TestP18_6Begins(t *testing.T) {
	l := nearTexts()
	for _, s := range l {
		p := begins("t", word(s))
		for _, x := range l {
			if atom.Test(p, word(x)) != api.Yes {
				continue
			}
			if value.Compare(word(x), word(s)) < 0 {
				t.Fatalf("%q begins with %q and is ahead of it", brief(x), brief(s))
			}
			for _, y := range l {
				if atom.Test(p, word(y)) == api.No && value.Compare(word(y), word(s)) > 0 && value.Compare(word(x), word(y)) > 0 {
					t.Fatalf("%q begins with %q and is behind %q", brief(x), brief(s), brief(y))
				}
			}
		}
	}
}

// withinBounds fails, if an atom says Yes of a value outside its bounds.
func withinBounds(t *testing.T, p api.Pred, values []api.Value) {
	t.Helper()
	lo, hi, ok := atom.Bounds(p)
	if !ok {
		return
	}
	for _, v := range values {
		if atom.Test(p, v) != api.Yes {
			continue
		}
		if lo != null && value.Compare(v, lo) < 0 || hi != null && value.Compare(v, hi) > 0 {
			t.Fatalf("%s says Yes of %s, outside of %s and %s", brief(p), brief(v), brief(lo), brief(hi))
		}
	}
}

// TestP18_7Within: each value of which an atom says Yes is within its bounds, also such as no column has.
func TestP18_7Within(t *testing.T) {
	all := allValues()
	for _, p := range slices.Concat(goodPreds("a", api.Int), goodPreds("a", api.Text), coreOf("a")) {
		withinBounds(t, p, all)
	}
	r := byChance(6)
	for range 20000 {
		withinBounds(t, somePred(r, []string{"a", ""}), list(someValue(r), someValue(r), someValue(r)))
	}
}

// TestP18_7Reached: bounds that are not Null are such that some value of them, or beside them, is said Yes of.
func TestP18_7Reached(t *testing.T) {
	for _, kind := range []int{api.Int, api.Text} {
		for _, p := range goodPreds("a", kind) {
			if p.Kind != api.PredIn && !(p.Kind == api.PredCompare && p.Op != api.Lt && p.Op != api.Gt) && p.Kind != api.PredBegins {
				continue
			}
			lo, hi, ok := atom.Bounds(p)
			for _, v := range list(lo, hi) {
				if ok && v != null {
					mustSay(t, p, v, api.Yes)
				}
			}
		}
	}
}

package preds_test

import (
	"math"
	"slices"
	"testing"

	"colonnade/api"
	"colonnade/preds"
)

func twoColumns() []api.Column {
	return []api.Column{{Name: "a", Type: api.Int, Null: true}, {Name: "t", Type: api.Text}}
}

func num(i int64) api.Value { return api.Value{Kind: api.Int, Int: i} }

// all is the predicate of every row, isNull an atom that may be.
var (
	all    = api.Pred{Kind: api.PredAll}
	isNull = api.Pred{Kind: api.PredNull, Column: "a"}
)

func and(kids ...api.Pred) api.Pred { return api.Pred{Kind: api.PredAnd, Kids: kids} }
func or(kids ...api.Pred) api.Pred  { return api.Pred{Kind: api.PredOr, Kids: kids} }
func not(kids ...api.Pred) api.Pred { return api.Pred{Kind: api.PredNot, Kids: kids} }

// mustBe asks of a predicate by itself, and as a kid among others.
func mustBe(t *testing.T, p api.Pred, want bool) {
	t.Helper()
	for _, q := range []api.Pred{p, not(p), and(p, all), or(all, isNull, p), not(and(all, or(not(p), all)))} {
		if preds.May(twoColumns(), q) != want {
			t.Fatalf("May(%v) is not %v", q, want)
		}
	}
}

// TestAtoms: what layer 18 says of them.
func TestAtoms(t *testing.T) {
	compared := api.Pred{Kind: api.PredCompare, Column: "a", Op: api.Lt, Value: num(3)}
	begins := api.Pred{Kind: api.PredBegins, Column: "t", Value: api.Value{Kind: api.Text, Text: "x"}}
	for _, p := range []api.Pred{isNull, compared, begins, {Kind: api.PredIn, Column: "t"}, {Kind: api.PredBetween, Column: "a", List: []api.Value{num(3), num(1)}}} {
		mustBe(t, p, true)
		p.Kids = []api.Pred{all}
		mustBe(t, p, false)
		p.Kids, p.Column = nil, "z"
		mustBe(t, p, false)
	}
	compared.Column, begins.Column = "t", "a"
	mustBe(t, compared, false)
	mustBe(t, begins, false)
	mustBe(t, api.Pred{Kind: api.PredIn, Column: "a", List: slices.Repeat([]api.Value{num(1)}, 1024)}, true)
	mustBe(t, api.Pred{Kind: api.PredIn, Column: "a", List: slices.Repeat([]api.Value{num(1)}, 1025)}, false)
	if preds.May(nil, isNull) || !preds.May(nil, all) {
		t.Fatal("an atom may be for no columns, or PredAll may not")
	}
}

// TestKids: PredAll has none, PredNot one, PredAnd and PredOr two or more; what is of another Kind may not be.
func TestKids(t *testing.T) {
	for n := range 5 {
		kids := slices.Repeat([]api.Pred{isNull}, n)
		mustBe(t, api.Pred{Kind: api.PredAll, Kids: kids}, n == 0)
		mustBe(t, not(kids...), n == 1)
		mustBe(t, and(kids...), n >= 2)
		mustBe(t, or(kids...), n >= 2)
		for _, kind := range []int{-1, 9, 256, 1<<32 + 6, math.MinInt, math.MaxInt} {
			mustBe(t, api.Pred{Kind: kind, Kids: kids}, false)
		}
	}
}

// TestOtherFields: those that do not count for what has kids, or is PredAll, are zero.
func TestOtherFields(t *testing.T) {
	for _, p := range []api.Pred{all, not(isNull), and(all, isNull), or(isNull, all)} {
		for _, v := range []api.Value{num(0), {Kind: api.Text}, {Int: 1}, {Text: "x"}, {Real: 1}, {Real: math.Copysign(0, -1)}, {Real: math.NaN()}, {Kind: 9}} {
			p.Value = v
			mustBe(t, p, false)
		}
		p.Value, p.Column = api.Value{}, "a"
		mustBe(t, p, false)
		p.Column, p.Op = "", 1
		mustBe(t, p, false)
		p.Op, p.List = 0, make([]api.Value, 1)
		mustBe(t, p, false)
		p.List = p.List[:0]
		mustBe(t, p, true)
	}
}

// TestLimits: 64 deep, 4096 in all, each counted, and one more.
func TestLimits(t *testing.T) {
	for _, wrap := range []func(p api.Pred) api.Pred{func(p api.Pred) api.Pred { return not(p) }, func(p api.Pred) api.Pred { return and(all, p) }, func(p api.Pred) api.Pred { return or(p, isNull) }} {
		for _, p := range []api.Pred{all, isNull} {
			for deep := 1; deep <= 70; deep++ {
				if preds.May(twoColumns(), p) != (deep <= 64) {
					t.Fatalf("%d deep", deep)
				}
				p = wrap(p)
			}
		}
	}
	many := slices.Repeat([]api.Pred{isNull}, 4096)
	turned := slices.Repeat([]api.Pred{not(all)}, 2048)
	for _, p := range []api.Pred{and(many[:4095]...), or(turned[:2047]...), and(or(many[:2000]...), or(many[:2093]...))} {
		if !preds.May(twoColumns(), p) {
			t.Fatal("at most 4096 predicates may not be")
		}
	}
	for _, p := range []api.Pred{and(many...), or(turned...), and(or(many[:2000]...), or(many[:2094]...)), not(and(many[:4095]...))} {
		if preds.May(twoColumns(), p) {
			t.Fatal("4097 predicates may be")
		}
	}
}

// TestEndless: a predicate that has itself among its kids, or one list so often that nothing could count it, may not be.
func TestEndless(t *testing.T) {
	for kind := api.PredAnd; kind <= api.PredNot; kind++ {
		for n := 1; n <= 3; n++ {
			p := api.Pred{Kind: kind, Kids: make([]api.Pred, n)}
			for i := range p.Kids {
				p.Kids[i] = p
			}
			if preds.May(twoColumns(), p) {
				t.Fatalf("a predicate of Kind %d that has itself %d times among its kids may be", kind, n)
			}
		}
	}
	p := isNull
	for deep := 2; deep <= 63; deep++ {
		p = or(p, p)
		if preds.May(twoColumns(), p) != (deep <= 12) {
			t.Fatalf("a list that stands within itself, %d deep", deep)
		}
	}
}

package query_test

import (
	"math"
	"slices"
	"testing"

	"colonnade/api"
	"colonnade/query"
)

func mustPlain(t *testing.T, p, want api.Pred) {
	t.Helper()
	if q := query.Plain(p); !samePred(q, want) {
		t.Fatalf("Plain(%s) = %s, not %s", brief(p), brief(q), brief(want))
	}
}

// TestP23_4Atoms: an atom is its own plain form, whether or not it may be; below a PredNot a comparison becomes its opposite.
func TestP23_4Atoms(t *testing.T) {
	opposite := []int{0, api.Ne, api.Eq, api.Ge, api.Gt, api.Le, api.Lt}
	for _, p := range slices.Concat(goodAtoms(), badAtoms()) {
		mustPlain(t, p, p)
		mustPlain(t, nots(2, p), p)
		turned := not(p)
		if p.Kind == api.PredCompare && p.Op >= 1 && p.Op <= 6 && len(p.List)+len(p.Kids) == 0 {
			turned = p
			turned.Op = opposite[p.Op]
		}
		mustPlain(t, not(p), turned)
		mustPlain(t, nots(3, p), turned)
	}
	for _, v := range notZero() {
		mustPlain(t, not(compared("", api.Lt, v)), compared("", api.Ge, v))
	}
	for _, op := range []int{0, 7, -1, math.MinInt, math.MaxInt} {
		p := compared("a", op, num(1))
		mustPlain(t, not(p), not(p))
	}
}

// TestP23_4Others: PredAll, a PredNot of none or of several, and what is of no Kind are left as they are, their kids too.
func TestP23_4Others(t *testing.T) {
	deep := not(and(not(lessThree()), and(all, isNull("a"))))
	others := []api.Pred{all, not(), not(deep, deep), not(lessThree(), not(lessThree()), deep)}
	for _, kind := range append(otherKinds(), api.PredAll) {
		others = append(others, api.Pred{Kind: kind, Kids: []api.Pred{deep}}, api.Pred{Kind: kind, Column: "a", Op: 1, Value: num(1)}, api.Pred{Kind: kind, List: list(num(1)), Kids: []api.Pred{deep, deep}})
	}
	for kind := api.PredCompare; kind <= api.PredBegins; kind++ {
		others = append(others, api.Pred{Kind: kind, Column: "a", Op: 3, Kids: []api.Pred{deep}}, api.Pred{Kind: kind, Op: 3, List: list(num(1)), Kids: []api.Pred{deep, not()}})
	}
	for _, p := range others {
		for _, q := range append(strayed(p), p) {
			mustPlain(t, q, q)
			mustPlain(t, not(q), not(q))
			mustPlain(t, nots(2, q), q)
			mustPlain(t, nots(3, q), not(q))
			mustPlain(t, and(q, not(q)), and(q, not(q)))
			mustPlain(t, not(and(q, not(q))), or(not(q), q))
		}
	}
}

// TestP23_4Strays: fields that do not count go where a PredAnd, a PredOr, or a PredNot of one is gone through.
func TestP23_4Strays(t *testing.T) {
	kid, other := lessThree(), isNull("t")
	for _, p := range strayed(and(kid, other)) {
		mustPlain(t, p, and(kid, other))
		mustPlain(t, not(p), or(compared("a", api.Ge, num(3)), not(other)))
		mustPlain(t, and(p, p), and(kid, other, kid, other))
		mustPlain(t, or(p, kid), or(and(kid, other), kid))
	}
	for _, p := range strayed(or(kid, other)) {
		mustPlain(t, p, or(kid, other))
	}
	for _, p := range strayed(not(kid)) {
		mustPlain(t, p, compared("a", api.Ge, num(3)))
		mustPlain(t, not(p), kid)
	}
}

// TestP23_4Joined: what is of the same Kind is opened in its place, however it came to be of it; what is not stays.
func TestP23_4Joined(t *testing.T) {
	x, y, z := compared("a", api.Lt, num(1)), compared("a", api.Lt, num(2)), compared("a", api.Lt, num(3))
	nx, ny, nz := compared("a", api.Ge, num(1)), compared("a", api.Ge, num(2)), compared("a", api.Ge, num(3))
	for _, c := range []struct{ p, want api.Pred }{
		{and(x, y), and(x, y)}, {or(x, y, z), or(x, y, z)}, {and(x, and(y, z)), and(x, y, z)}, {and(and(x, y), z), and(x, y, z)}, {or(or(x, or(y, z)), x), or(x, y, z, x)},
		{and(x, or(y, z)), and(x, or(y, z))}, {or(and(x, y), z), or(and(x, y), z)}, {and(x, or(y, and(z, and(x, y)))), and(x, or(y, and(z, x, y)))},
		{not(and(x, y)), or(nx, ny)}, {not(or(x, y)), and(nx, ny)}, {not(and(x, and(y, z))), or(nx, ny, nz)}, {not(and(x, or(y, z))), or(nx, and(ny, nz))},
		{and(x, not(or(y, z))), and(x, ny, nz)}, {or(not(and(x, y)), z), or(nx, ny, z)}, {and(x, not(and(y, z))), and(x, or(ny, nz))}, {or(x, not(or(y, z))), or(x, and(ny, nz))},
		{and(x, nots(2, and(y, z))), and(x, y, z)}, {or(nots(3, and(x, y)), z), or(nx, ny, z)}, {and(nots(2, or(x, y)), z), and(or(x, y), z)},
		{not(and(x, not(or(y, not(and(z, x)))))), or(nx, y, nz, nx)}, {not(or(not(and(x, y)), not(and(y, z)))), and(x, y, y, z)}, {not(not(not(or(x, not(y))))), and(nx, y)},
		{and(all, not(all)), and(all, not(all))}, {not(or(all, not(all), isNull("a"))), and(not(all), all, not(isNull("a")))},
	} {
		mustPlain(t, c.p, c.want)
	}
}

// TestP23_4FewKids: a PredAnd or PredOr of one kid or of none stays one, and stands for its kids within its like.
func TestP23_4FewKids(t *testing.T) {
	x, nx := lessThree(), compared("a", api.Ge, num(3))
	for _, c := range []struct{ p, want api.Pred }{
		{and(), and()}, {or(), or()}, {not(and()), or()}, {not(or()), and()}, {and(x), and(x)}, {not(or(x)), and(nx)},
		{and(and(), x), and(x)}, {and(and(), and()), and()}, {or(x, not(and()), x), or(x, x)}, {and(or(), or(x)), and(or(), or(x))}, {and(and(and(x))), and(x)}, {not(and(or(and(x)))), or(and(or(nx)))}, {and(or(and(x))), and(or(and(x)))},
	} {
		mustPlain(t, c.p, c.want)
	}
}

// TestP23_4Deep: as deep as parts may stand within one another; a chain of one Kind becomes one list, in its order.
func TestP23_4Deep(t *testing.T) {
	const deep = 1<<16 - 2
	mustPlain(t, nots(deep, isNull("a")), isNull("a"))
	mustPlain(t, nots(deep+1, isNull("a")), not(isNull("a")))
	mustPlain(t, nots(deep+1, lessThree()), compared("a", api.Ge, num(3)))
	right, left := compared("a", api.Eq, num(0)), compared("a", api.Eq, num(0))
	byTurns, strange := right, api.Pred{Kind: 9}
	for i := 1; i < deep; i++ {
		x := compared("a", api.Eq, num(int64(i)))
		right, left = and(x, right), or(left, x)
		if i < deep/2 {
			// Below each PredNot the Kind is the other one, so that all come to be PredAnds.
			byTurns = not(api.Pred{Kind: api.PredOr, Kids: []api.Pred{compared("a", api.Ne, num(int64(i))), not(byTurns)}})
		}
		strange = api.Pred{Kind: 9, Kids: []api.Pred{strange}}
	}
	for name, c := range map[string]struct {
		p    api.Pred
		kind int
		n    int
		down bool
	}{"right": {right, api.PredAnd, deep, true}, "left": {left, api.PredOr, deep, false}, "turned": {not(left), api.PredAnd, deep, false}, "by turns": {byTurns, api.PredAnd, deep / 2, true}} {
		q := query.Plain(c.p)
		if q.Kind != c.kind || len(q.Kids) != c.n {
			t.Fatalf("%s: Kind %d, %d kids", name, q.Kind, len(q.Kids))
		}
		for i, k := range q.Kids {
			want := int64(i)
			if c.down {
				want = int64(c.n - 1 - i)
			}
			if k.Value != num(want) || len(k.Kids) > 0 {
				t.Fatalf("%s: kid %d is %s", name, i, brief(k))
			}
		}
	}
	if q := query.Plain(strange); depth(q) != deep {
		t.Fatalf("%d deep, not %d", depth(q), deep)
	}
}

// TestP23_4ByChance: as the plain reading has it, of predicates that may be and of wild ones.
func TestP23_4ByChance(t *testing.T) {
	r := byChance(4)
	for range 20000 {
		p := somePred(r, fourColumns(), 1+r.IntN(7))
		mustPlain(t, p, readForm(p, false))
		mustPlain(t, not(p), readForm(p, true))
		p = wildPred(r, 1+r.IntN(6))
		mustPlain(t, p, readForm(p, false))
		mustPlain(t, not(p), readForm(p, true))
	}
}

package atom_test

import (
	"math"
	"math/rand/v2"
	"slices"

	"colonnade/api"
)

// ops are all that there are.
func ops() []int { return []int{1, 2, 3, 4, 5, 6} }

func wrongOps() []int {
	return []int{0, -1, -2, -6, 7, 8, 256, 257, 1<<32 + 1, math.MinInt, math.MaxInt}
}

func atomKinds() []int { return []int{1, 2, 3, 4, 5} }

// otherKinds are of predicates that are no atoms, or of none.
func otherKinds() []int {
	return []int{0, -1, -5, 6, 7, 8, 9, 256, 257, 261, 1<<32 + 1, 1<<32 + 4, math.MinInt, math.MinInt + 1, math.MaxInt}
}

// lists have from no value to three, in every order, some of them twice, and a long one.
func lists() [][]api.Value {
	few := someOfEach()
	out := [][]api.Value{nil, {}, goodValues(), allValues()}
	for _, v := range allValues() {
		out = append(out, list(v))
	}
	for _, v := range few {
		for _, w := range few {
			out = append(out, list(v, w))
		}
		out = append(out, list(v, num(3), num(7)), list(num(3), v, num(7)), list(num(7), num(3), v), list(v, v, v))
	}
	return out
}

// barePreds are predicates without fields that do not count: of each Kind of an atom with whatever values, Ops and lists.
func barePreds(name string) []api.Pred {
	out := []api.Pred{isNull(name)}
	for _, v := range allValues() {
		for _, op := range slices.Concat(ops(), wrongOps()) {
			out = append(out, compared(name, op, v))
		}
		out = append(out, begins(name, v))
	}
	for _, l := range lists() {
		out = append(out, in(name, l...), between(name, l...))
	}
	return out
}

// filled are predicates in which a field, or several, stand that do not count for some Kind.
func filled(p api.Pred) []api.Pred {
	var out []api.Pred
	with := func(change func(p *api.Pred)) {
		other := p
		change(&other)
		out = append(out, other)
	}
	for _, op := range []int{1, -1, 6, 7, math.MinInt} {
		with(func(p *api.Pred) { p.Op = op })
	}
	for _, v := range slices.Concat(nearlyNull(), list(num(0), num(5), float(0), word(""), word("qu"), api.Value{Kind: 9})) {
		with(func(p *api.Pred) { p.Value = v })
	}
	for _, l := range [][]api.Value{{null}, {num(5)}, {word("qu"), word("qu")}, {num(3), num(7), num(5)}} {
		with(func(p *api.Pred) { p.List = l })
	}
	for _, kids := range [][]api.Pred{{{}}, {isNull("a")}, {{}, {Kind: api.PredNot, Kids: []api.Pred{{}}}}} {
		with(func(p *api.Pred) { p.Kids = kids })
	}
	with(func(p *api.Pred) { p.Op, p.Value, p.List, p.Kids = 2, word("a"), words("a", "b"), []api.Pred{{}} })
	return out
}

// coreOf are a few atoms of each Kind that are right.
func coreOf(name string) []api.Pred {
	out := []api.Pred{isNull(name), in(name), in(name, nums(7, 3)...), in(name, words("q", "qu")...), between(name, nums(3, 7)...), between(name, words("b", "a")...), begins(name, word("qu")), begins(name, word(""))}
	for _, op := range ops() {
		out = append(out, compared(name, op, num(5)), compared(name, op, word("qu")))
	}
	return out
}

// allPreds are predicates of whatever Kind, with and without fields that do not count.
func allPreds(name string) []api.Pred {
	out := barePreds(name)
	for _, p := range coreOf(name) {
		out = append(out, filled(p)...)
		for _, kind := range otherKinds() {
			p.Kind = kind
			out = append(out, p)
		}
	}
	for _, kind := range slices.Concat(atomKinds(), otherKinds()) {
		out = append(out, api.Pred{Kind: kind}, api.Pred{Kind: kind, Column: name})
		out = append(out, filled(api.Pred{Kind: kind, Column: name})...)
	}
	return out
}

// goodPreds are atoms that may be for a column of that name and type.
func goodPreds(name string, kind int) []api.Pred {
	l := intValues()
	if kind == api.Text {
		l = textValues()
	}
	out := []api.Pred{isNull(name), in(name), in(name, l...)}
	for i, v := range l {
		for _, op := range ops() {
			out = append(out, compared(name, op, v))
		}
		for k, w := range l {
			out = append(out, between(name, v, w), in(name, v, w), in(name, w, l[(i+k)%len(l)], v))
		}
		if kind == api.Text {
			out = append(out, begins(name, v))
		}
		out = append(out, in(name, v))
	}
	return out
}

// fewBad are values that may not be, none of them long.
var fewBad = slices.DeleteFunc(badValues(), func(v api.Value) bool { return len(v.Text) > 10 })

// someValue is of any sort, by chance.
func someValue(r *rand.Rand) api.Value {
	switch r.IntN(8) {
	case 0:
		return oneOf(r, fewBad)
	case 1:
		return null
	case 2:
		return float(float64(r.IntN(9)) / 2)
	case 3, 4:
		return word([]string{"", "q", "qu", "quo", "r", "\xff"}[r.IntN(6)])
	}
	return num(int64(r.IntN(9)))
}

// somePred is of any Kind, most fields as they may be.
func somePred(r *rand.Rand, names []string) api.Pred {
	p := api.Pred{Kind: 1 + r.IntN(5), Column: oneOf(r, names)}
	if p.Kind == api.PredCompare || r.IntN(10) == 0 {
		p.Op = 1 + r.IntN(6)
	}
	if p.Kind == api.PredCompare || p.Kind == api.PredBegins || r.IntN(10) == 0 {
		p.Value = someValue(r)
	}
	if p.Kind == api.PredIn || r.IntN(12) == 0 {
		p.List = someList(r, r.IntN(4))
	}
	if p.Kind == api.PredBetween {
		p.List = someList(r, 2+r.IntN(12)/10-r.IntN(12)/10)
	}
	switch r.IntN(40) {
	case 0:
		p.Kind = oneOf(r, otherKinds())
	case 1:
		p.Op = oneOf(r, wrongOps())
	case 2:
		p.Kids = make([]api.Pred, 1+r.IntN(2))
	case 3:
		p.List = someList(r, 1024+r.IntN(2))
	}
	return p
}

// someList is of one type more often than not.
func someList(r *rand.Rand, n int) []api.Value {
	l := make([]api.Value, n)
	sort := r.IntN(3)
	for i := range l {
		switch sort {
		case 0:
			l[i] = num(int64(r.IntN(9)))
		case 1:
			l[i] = word([]string{"", "q", "qu", "quo", "r"}[r.IntN(5)])
		default:
			l[i] = someValue(r)
		}
	}
	return l
}

package atom_test

import (
	"fmt"
	"slices"
	"testing"

	"colonnade/api"
)

// asked is what Check is asked.
type asked struct {
	cols []api.Column
	p    api.Pred
}

// fault breaks one thing of what Check is asked, for atoms of some Kinds.
type fault struct {
	name  string
	kinds []int
	want  api.Errno
	in    func(a *asked)
}

func every() []int { return atomKinds() }

// stretched is a list brought to n values, the first of them as they were.
func stretched(l []api.Value, n int) []api.Value {
	return slices.Concat(l, slices.Repeat(words("a"), n))[:n]
}

// shapeFaults are those that are seen before a value is looked at, a wrong Kind apart.
func shapeFaults() []fault {
	l := []fault{
		{"no column of Texts", []int{5}, api.ErrOp, func(a *asked) { a.cols[1].Type = api.Int }},
		{"a column of no type", []int{5}, api.ErrOp, func(a *asked) { a.cols[1].Type = 7 }},
		{"an Op too much", []int{2, 3, 4, 5}, api.ErrArg, func(a *asked) { a.p.Op = 1 }},
		{"an Op of none too much", []int{2, 3, 4, 5}, api.ErrArg, func(a *asked) { a.p.Op = -1 }},
		{"a Value too much", []int{2, 3, 4}, api.ErrArg, func(a *asked) { a.p.Value = num(0) }},
		{"a Null that may not be", []int{2, 3, 4}, api.ErrArg, func(a *asked) { a.p.Value = api.Value{Real: minusZero} }},
		{"a List too much", []int{1, 4, 5}, api.ErrArg, func(a *asked) { a.p.List = make([]api.Value, 1) }},
		{"a long List too much", []int{1, 4, 5}, api.ErrArg, func(a *asked) { a.p.List = make([]api.Value, 1025) }},
		{"a Kid", every(), api.ErrArg, func(a *asked) { a.p.Kids = make([]api.Pred, 1) }},
		{"another name", every(), api.ErrColumn, func(a *asked) { a.p.Column = "z" }},
		{"no columns", every(), api.ErrColumn, func(a *asked) { a.cols = nil }},
		{"too long", []int{2}, api.ErrLarge, func(a *asked) { a.p.List = stretched(a.p.List, 1025) }},
	}
	for _, n := range []int{0, 1, 3, 1025} {
		l = append(l, fault{fmt.Sprintf("between %d", n), []int{3}, api.ErrArg, func(a *asked) { a.p.List = stretched(a.p.List, n) }})
	}
	for _, op := range wrongOps() {
		l = append(l, fault{fmt.Sprintf("Op %d", op), []int{1}, api.ErrOp, func(a *asked) { a.p.Op = op }})
	}
	return l
}

// valueFaults are of a value: it may not be, is Null, or of another type.
func valueFaults() []fault {
	var l []fault
	for _, v := range list(null, api.Value{Int: 1}, num(5), float(5), api.Value{Kind: 2, Text: "x", Int: 1}, word(longest('a')+"a"), api.Value{Kind: -1}) {
		l = append(l, fault{"Value " + brief(v)[:8], []int{1, 5}, api.ErrValue, func(a *asked) { a.p.Value = v }},
			fault{"first " + brief(v)[:8], []int{2, 3}, api.ErrValue, func(a *asked) { a.p.List[0] = v }},
			fault{"last " + brief(v)[:8], []int{2, 3}, api.ErrValue, func(a *asked) { a.p.List[len(a.p.List)-1] = v }})
	}
	return l
}

// allFaults stand so that each of them can be laid on behind those ahead of it.
func allFaults() []fault {
	l := append(valueFaults(), shapeFaults()...)
	for _, kind := range otherKinds() {
		l = append(l, fault{fmt.Sprintf("Kind %d", kind), every(), api.ErrOp, func(a *asked) { a.p.Kind = kind }})
	}
	return l
}

// faultless is an atom of a Kind, of a column of Texts, that nothing is wrong with.
func faultless(kind int) asked {
	a := asked{cols: twoColumns()}
	switch kind {
	case api.PredCompare:
		a.p = compared("t", api.Lt, word("x"))
	case api.PredIn:
		a.p = in("t", words("b", "a")...)
	case api.PredBetween:
		a.p = between("t", words("a", "b")...)
	case api.PredNull:
		a.p = isNull("t")
	case api.PredBegins:
		a.p = begins("t", word("x"))
	}
	return a
}

// faultsOf are those that there can be of a Kind.
func faultsOf(kind int) []fault {
	return slices.DeleteFunc(allFaults(), func(f fault) bool { return !slices.Contains(f.kinds, kind) })
}

// first is the one of some errors that stands first in the promise.
func first(l ...api.Errno) api.Errno {
	for _, e := range []api.Errno{api.ErrOp, api.ErrArg, api.ErrColumn, api.ErrLarge, api.ErrValue} {
		if slices.Contains(l, e) {
			return e
		}
	}
	return api.OK
}

// wanted is the error of two faults at one time. The type of a column that is not there is no fault.
func wanted(kind int, f, g fault) api.Errno {
	typed := func(f fault) bool { return f.name == "no column of Texts" || f.name == "a column of no type" }
	if kind == api.PredBegins && typed(f) && g.want == api.ErrColumn {
		return g.want
	}
	return first(f.want, g.want)
}

func TestP18_1OneFault(t *testing.T) {
	for _, kind := range every() {
		whole := faultless(kind)
		mustCheck(t, whole.cols, whole.p, api.OK)
		for _, f := range faultsOf(kind) {
			a := faultless(kind)
			f.in(&a)
			mustCheck(t, a.cols, a.p, f.want)
		}
	}
}

// TestP18_1EveryPair: of two faults the one that the promise names first is told.
func TestP18_1EveryPair(t *testing.T) {
	for _, kind := range every() {
		l := faultsOf(kind)
		for i, f := range l {
			for _, g := range l[i:] {
				a := faultless(kind)
				f.in(&a)
				g.in(&a)
				mustCheck(t, a.cols, a.p, wanted(kind, f, g))
				mustCheck(t, a.cols, a.p, plainCheck(a.cols, a.p))
			}
		}
	}
}

// TestP18_1ManyFaults: three and more at one time, as the plain reading has it.
func TestP18_1ManyFaults(t *testing.T) {
	r := byChance(2)
	for _, kind := range every() {
		l := faultsOf(kind)
		for range 4000 {
			a := faultless(kind)
			for _, f := range l {
				if r.IntN(len(l)) < 4 {
					f.in(&a)
				}
			}
			mustCheck(t, a.cols, a.p, plainCheck(a.cols, a.p))
		}
	}
}

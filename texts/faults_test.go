package texts_test

import (
	"math"
	"slices"
	"strings"
	"testing"

	"colonnade/api"
	"colonnade/atom"
	"colonnade/chunk"
	"colonnade/texts"
)

// fault is one thing that is wrong with an atom of some Kinds, and what is told of it.
type fault struct {
	kinds []int
	want  api.Errno
	in    func(p *api.Pred)
}

func kinds() []int {
	return []int{api.PredCompare, api.PredIn, api.PredBetween, api.PredNull, api.PredBegins}
}

// faultless is an atom of a Kind that nothing is wrong with.
func faultless(kind int) api.Pred {
	switch kind {
	case api.PredCompare:
		return compared(api.Lt, "b")
	case api.PredIn:
		return in("b", "ab")
	case api.PredBetween:
		return between("ab", "b")
	case api.PredBegins:
		return begins("a")
	}
	return isNull()
}

// badValues may not be, are Null, or no texts.
func badValues() []api.Value {
	return []api.Value{null, num(3), num(0), {Kind: api.Real, Real: 5}, {Kind: api.Text, Int: 5, Text: "a"}, {Kind: api.Text, Real: 1}, {Kind: api.Text, Text: "b", Real: math.Copysign(0, -1)}, {Kind: 4, Text: "a"}, {Kind: -1}, {Text: "a"}, {Kind: 1<<32 + 2}, word(strings.Repeat("a", api.MaxText+1))}
}

// shapeFaults are those of an atom's form and name.
func shapeFaults() []fault {
	with := func(n int) func(p *api.Pred) {
		return func(p *api.Pred) { p.List = slices.Concat(p.List, slices.Repeat(words("c"), n))[:n] }
	}
	l := []fault{
		{[]int{2, 3, 4, 5}, api.ErrArg, func(p *api.Pred) { p.Op = api.Eq }},
		{[]int{2, 3, 4}, api.ErrArg, func(p *api.Pred) { p.Value = word("") }},
		{[]int{2, 3, 4}, api.ErrArg, func(p *api.Pred) { p.Value = api.Value{Real: math.Copysign(0, -1)} }},
		{[]int{1, 4, 5}, api.ErrArg, func(p *api.Pred) { p.List = words("a") }},
		{kinds(), api.ErrArg, func(p *api.Pred) { p.Kids = []api.Pred{isNull()} }},
		{[]int{3}, api.ErrArg, with(0)}, {[]int{3}, api.ErrArg, with(1)}, {[]int{3}, api.ErrArg, with(3)}, {[]int{3}, api.ErrArg, with(1025)},
		{kinds(), api.ErrColumn, func(p *api.Pred) { p.Column = "u" }},
		{kinds(), api.ErrColumn, func(p *api.Pred) { p.Column = "" }},
		{kinds(), api.ErrColumn, func(p *api.Pred) { p.Column = "T" }},
		{[]int{2}, api.ErrLarge, with(1025)}, {[]int{2}, api.ErrLarge, with(3000)},
	}
	for _, op := range []int{0, -1, 7, 8, math.MinInt, math.MaxInt} {
		l = append(l, fault{[]int{1}, api.ErrOp, func(p *api.Pred) { p.Op = op }})
	}
	return l
}

// allFaults stand so that each can be laid on behind those ahead of it.
func allFaults() []fault {
	var l []fault
	for _, v := range badValues() {
		l = append(l, fault{[]int{1, 5}, api.ErrValue, func(p *api.Pred) { p.Value = v }},
			fault{[]int{2, 3}, api.ErrValue, func(p *api.Pred) { p.List[0] = v }},
			fault{[]int{2, 3}, api.ErrValue, func(p *api.Pred) { p.List[1] = v }})
	}
	l = append(l, shapeFaults()...)
	for _, kind := range []int{api.PredAll, api.PredAnd, api.PredOr, api.PredNot, 9, -1, math.MinInt, math.MaxInt} {
		l = append(l, fault{kinds(), api.ErrOp, func(p *api.Pred) { p.Kind = kind }})
	}
	return l
}

func faultsOf(kind int) []fault {
	return slices.DeleteFunc(allFaults(), func(f fault) bool { return !slices.Contains(f.kinds, kind) })
}

// first is the one of two errors that layer 18's Check names first.
func first(e, f api.Errno) api.Errno {
	for _, x := range []api.Errno{api.ErrOp, api.ErrArg, api.ErrColumn, api.ErrLarge, api.ErrValue} {
		if e == x || f == x {
			return x
		}
	}
	return api.OK
}

// faultyChunks are what faulty atoms are asked of: chunks of every codec, such as have no values or nulls alone among them.
func faultyChunks(t *testing.T) []*chunk.Chunk {
	t.Helper()
	l := []api.Value{word("ab"), null, word("b"), word("ab")}
	return slices.Concat(chunksOf(t, withNulls, l), chunksOf(t, noNulls, nil), chunksOf(t, withNulls, make([]api.Value, 2)))
}

func TestP20_2OneFault(t *testing.T) {
	chunks := faultyChunks(t)
	for _, kind := range kinds() {
		for _, f := range faultsOf(kind) {
			for _, ch := range chunks {
				p := faultless(kind)
				if _, _, e := texts.Test(ch, p); e != api.OK {
					t.Fatalf("%s: %d", brief(p), e)
				}
				f.in(&p)
				mustRefuse(t, ch, p, f.want)
			}
		}
	}
}

// TestP20_2TwoFaults: of two faults the one is told that layer 18's Check names first.
func TestP20_2TwoFaults(t *testing.T) {
	chunks := faultyChunks(t)
	for _, kind := range kinds() {
		l := faultsOf(kind)
		for i, f := range l {
			for k, g := range l[i:] {
				p := faultless(kind)
				f.in(&p)
				g.in(&p)
				ch := chunks[(i+k)%len(chunks)]
				mustRefuse(t, ch, p, first(f.want, g.want))
				mustRefuse(t, ch, p, atom.Check([]api.Column{ch.Column()}, p))
			}
		}
	}
}

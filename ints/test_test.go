package ints_test

import (
	"math"
	"slices"
	"testing"

	"colonnade/api"
	"colonnade/atom"
	"colonnade/chunk"
	"colonnade/ints"
)

// TestP19_1EveryAtom: every sort of atom against every codec, of all lists.
func TestP19_1EveryAtom(t *testing.T) {
	for _, l := range allLists() {
		chunks := chunksOf(t, withNulls, l, someWidths())
		for _, p := range atomsFor(l) {
			mustSay(t, chunks, l, p)
		}
	}
}

// TestP19_1EveryWidth: frames and packed numbers of every width that there is.
func TestP19_1EveryWidth(t *testing.T) {
	for _, l := range [][]api.Value{
		nil, nums(5), {num(3), null, num(5), num(0)}, upTo(greatest-6, 1, 7), upTo(least+6, -1, 7), nums(least, greatest, 0), nums(100, 107, 103), make([]api.Value, 3),
	} {
		chunks := chunksOf(t, withNulls, l, everyWidth())
		for _, p := range atomsFor(l) {
			mustSay(t, chunks, l, p)
		}
	}
}

// TestP19_1NoNulls: a column in which nulls may not stand.
func TestP19_1NoNulls(t *testing.T) {
	for _, l := range denseLists() {
		chunks := chunksOf(t, noNulls, l, someWidths())
		for _, p := range slices.Concat([]api.Pred{isNull()}, comparesFor(l), insFor(l)) {
			mustSay(t, chunks, l, p)
		}
	}
}

// TestP19_1AllKeys: a dictionary of as many keys as it may have, and of one fewer, constants at and between all of its ends.
func TestP19_1AllKeys(t *testing.T) {
	for _, n := range []int{api.MaxDict, api.MaxDict - 1, 256, 257} {
		l := make([]api.Value, n)
		for i := range l {
			l[(i*7919+5)%n] = num(int64(2*i) - 1000)
		}
		ch, is := opened(t, noNulls, l, api.Codec{Kind: api.Dict})
		if !is {
			t.Fatalf("%d keys do not fit", n)
		}
		last := int64(2*n) - 1002
		for _, c := range []int64{least, -1001, -1000, -999, -998, 1, 2, last - 1, last, last + 1, greatest} {
			for _, op := range ops() {
				mustSay(t, []*chunk.Chunk{ch}, l, compared(op, c))
			}
			mustSay(t, []*chunk.Chunk{ch}, l, between(-1000, c))
			mustSay(t, []*chunk.Chunk{ch}, l, between(c, last))
			mustSay(t, []*chunk.Chunk{ch}, l, in(last, c, -1000))
		}
	}
}

// TestP19_1AllRows: as many values as a chunk may have: 5, all of them, or all but the last one, which is 6.
func TestP19_1AllRows(t *testing.T) {
	for _, x := range []struct {
		b    []byte
		want int
	}{
		{[]byte{3, 0, 0, 1, 128, 128, 128, 8, 10}, api.MaxRows},
		{[]byte{3, 0, 0, 2, 255, 255, 255, 7, 10, 1, 12}, api.MaxRows - 1},
		{[]byte{4, 0, 0, 5, 0, 0, 0, 0, 0, 0, 0}, api.MaxRows},
		{[]byte{2, 0, 0, 1, 5, 0, 0, 0, 0, 0, 0, 0}, api.MaxRows},
	} {
		ch, e := chunk.Open(noNulls, api.MaxRows, x.b)
		if e != api.OK {
			t.Fatal(x.b, e)
		}
		yes, unknown, e := ints.Test(ch, compared(api.Le, 5))
		if e != api.OK || yes.Len() != api.MaxRows || yes.Count() != x.want || yes.Rank(x.want) != x.want || unknown.Len() != api.MaxRows || unknown.Count() != 0 {
			t.Fatalf("%v: %d of %d, unknown %d, %d", x.b, yes.Count(), yes.Len(), unknown.Count(), e)
		}
	}
}

// TestP19_1LongLists: lists of as many values as there may be, of whatever order, against many values.
func TestP19_1LongLists(t *testing.T) {
	r := byChance(2)
	l := make([]api.Value, 3000)
	for i := range l {
		if r.IntN(9) > 0 {
			l[i] = num(int64(r.IntN(4000)) - 500)
		}
	}
	chunks := chunksOf(t, withNulls, l, []int{13, 40, 64})
	for _, n := range []int{31, 32, 33, 34, 65, 1023, 1024} {
		list := make([]int64, n)
		for i := range list {
			list[i] = int64(r.IntN(5000)) - 1000
		}
		mustSay(t, chunks, l, in(list...))
		slices.Sort(list)
		mustSay(t, chunks, l, in(list...))
		slices.Reverse(list)
		mustSay(t, chunks, l, in(list...))
	}
}

// TestP19_1WholeList: each value of a list counts, the first and the last too, if it has as many as it may have, and all of them are there.
func TestP19_1WholeList(t *testing.T) {
	l := upTo(-3, 1, api.MaxList+6)
	chunks := chunksOf(t, noNulls, l, []int{11, 40, 64})
	rising := numbersIn(l)[3 : api.MaxList+3]
	falling := slices.Clone(rising)
	slices.Reverse(falling)
	mustSay(t, chunks, l, in(rising...))
	mustSay(t, chunks, l, in(falling...))
}

// TestP19_1NotThere: of a chunk that is not there nothing is asked, whatever the predicate.
func TestP19_1NotThere(t *testing.T) {
	for _, ch := range []*chunk.Chunk{nil, {}, new(chunk.Chunk)} {
		for _, p := range slices.Concat([]api.Pred{{}, isNull(), in(), {Kind: api.PredIn}, {Kind: api.PredNull}, {Kind: -1}}, comparesFor(nums(0))) {
			mustRefuse(t, ch, p, api.ErrNil)
		}
		for _, kind := range kinds() {
			for _, f := range faultsOf(kind) {
				p := faultless(kind)
				f.in(&p)
				mustRefuse(t, ch, p, api.ErrNil)
			}
		}
	}
}

// TestP19_1Texts: a chunk of texts is refused ahead of whatever is wrong with the predicate.
func TestP19_1Texts(t *testing.T) {
	for _, l := range [][]api.Value{nil, {null}, {word("a"), null, word("b")}} {
		for _, c := range chunk.Fit(ofTexts, l) {
			ch, _ := opened(t, ofTexts, l, c)
			for _, p := range []api.Pred{
				{}, isNull(), in(), in(1), between(1, 2), compared(api.Eq, 5),
				{Kind: api.PredCompare, Column: "n", Op: api.Eq, Value: word("a")},
				{Kind: api.PredBegins, Column: "n", Value: word("a")},
				{Kind: api.PredNull, Column: "m"}, {Kind: api.PredNull, Column: "n", Op: 1}, {Kind: api.PredIn, Column: "n", List: make([]api.Value, 1025)},
			} {
				mustRefuse(t, ch, p, api.ErrOp)
			}
		}
	}
}

// fault is one thing that is wrong with an atom of some Kinds, and what is told of it.
type fault struct {
	kinds []int
	want  api.Errno
	in    func(p *api.Pred)
}

func kinds() []int { return []int{api.PredCompare, api.PredIn, api.PredBetween, api.PredNull} }

// faultless is an atom of a Kind that nothing is wrong with.
func faultless(kind int) api.Pred {
	switch kind {
	case api.PredCompare:
		return compared(api.Lt, 5)
	case api.PredIn:
		return in(7, 5)
	case api.PredBetween:
		return between(5, 7)
	}
	return isNull()
}

// badValues may not be, are Null, or no numbers.
func badValues() []api.Value {
	return []api.Value{null, word("a"), word(""), {Kind: api.Real, Real: 5}, {Kind: api.Int, Int: 5, Text: "a"}, {Kind: api.Int, Real: 1}, {Kind: api.Int, Real: math.Copysign(0, -1)}, {Kind: 4, Int: 5}, {Kind: -1}, {Int: 5}, {Kind: 1<<32 + 1}}
}

// shapeFaults are those of an atom's form and name.
func shapeFaults() []fault {
	with := func(n int) func(p *api.Pred) {
		return func(p *api.Pred) { p.List = slices.Concat(p.List, slices.Repeat(nums(6), n))[:n] }
	}
	l := []fault{
		{[]int{2, 3, 4}, api.ErrArg, func(p *api.Pred) { p.Op = api.Eq }},
		{[]int{2, 3, 4}, api.ErrArg, func(p *api.Pred) { p.Value = num(0) }},
		{[]int{2, 3, 4}, api.ErrArg, func(p *api.Pred) { p.Value = api.Value{Real: math.Copysign(0, -1)} }},
		{[]int{1, 4}, api.ErrArg, func(p *api.Pred) { p.List = nums(5) }},
		{kinds(), api.ErrArg, func(p *api.Pred) { p.Kids = []api.Pred{isNull()} }},
		{[]int{3}, api.ErrArg, with(0)}, {[]int{3}, api.ErrArg, with(1)}, {[]int{3}, api.ErrArg, with(3)}, {[]int{3}, api.ErrArg, with(1025)},
		{kinds(), api.ErrColumn, func(p *api.Pred) { p.Column = "m" }},
		{kinds(), api.ErrColumn, func(p *api.Pred) { p.Column = "" }},
		{kinds(), api.ErrColumn, func(p *api.Pred) { p.Column = "N" }},
		{[]int{2}, api.ErrLarge, with(1025)}, {[]int{2}, api.ErrLarge, with(3000)},
	}
	for _, op := range []int{0, -1, 7, 8, math.MinInt, math.MaxInt} {
		l = append(l, fault{[]int{1}, api.ErrOp, func(p *api.Pred) { p.Op = op }})
	}
	return l
}

// allFaults stand so that each can be laid on behind those ahead of it.
func allFaults() []fault {
	var l []fault
	for _, v := range badValues() {
		l = append(l, fault{[]int{1}, api.ErrValue, func(p *api.Pred) { p.Value = v }},
			fault{[]int{2, 3}, api.ErrValue, func(p *api.Pred) { p.List[0] = v }},
			fault{[]int{2, 3}, api.ErrValue, func(p *api.Pred) { p.List[1] = v }})
	}
	l = append(l, shapeFaults()...)
	for _, kind := range []int{api.PredAll, api.PredAnd, api.PredOr, api.PredNot, 9, -1, math.MinInt, math.MaxInt} {
		l = append(l, fault{kinds(), api.ErrOp, func(p *api.Pred) { p.Kind = kind }})
	}
	return l
}

func faultsOf(kind int) []fault {
	return slices.DeleteFunc(allFaults(), func(f fault) bool { return !slices.Contains(f.kinds, kind) })
}

// first is the one of two errors that layer 18's Check names first.
func first(e, f api.Errno) api.Errno {
	for _, x := range []api.Errno{api.ErrOp, api.ErrArg, api.ErrColumn, api.ErrLarge, api.ErrValue} {
		if e == x || f == x {
			return x
		}
	}
	return api.OK
}

// faultyChunks are what faulty atoms are asked of: chunks of every codec, one without values among them.
func faultyChunks(t *testing.T) []*chunk.Chunk {
	t.Helper()
	l := []api.Value{num(5), null, num(7), num(5)}
	return slices.Concat(chunksOf(t, withNulls, l, nil), chunksOf(t, noNulls, nil, nil), chunksOf(t, withNulls, make([]api.Value, 2), nil))
}

func TestP19_1OneFault(t *testing.T) {
	chunks := faultyChunks(t)
	for _, kind := range kinds() {
		for _, f := range faultsOf(kind) {
			for _, ch := range chunks {
				p := faultless(kind)
				if _, _, e := ints.Test(ch, p); e != api.OK {
					t.Fatalf("%s: %d", brief(p), e)
				}
				f.in(&p)
				mustRefuse(t, ch, p, f.want)
			}
		}
	}
}

// TestP19_1TwoFaults: of two faults the one is told that layer 18's Check names first.
func TestP19_1TwoFaults(t *testing.T) {
	chunks := faultyChunks(t)
	for _, kind := range kinds() {
		l := faultsOf(kind)
		for i, f := range l {
			for k, g := range l[i:] {
				p := faultless(kind)
				f.in(&p)
				g.in(&p)
				ch := chunks[(i+k)%len(chunks)]
				mustRefuse(t, ch, p, first(f.want, g.want))
				mustRefuse(t, ch, p, atom.Check([]api.Column{ch.Column()}, p))
			}
		}
	}
}

// TestP19_1Begins: no number begins with anything; but a column that is not there is told as such.
func TestP19_1Begins(t *testing.T) {
	for _, ch := range faultyChunks(t) {
		for _, v := range append(badValues(), num(5)) {
			mustRefuse(t, ch, api.Pred{Kind: api.PredBegins, Column: "n", Value: v}, api.ErrOp)
			mustRefuse(t, ch, api.Pred{Kind: api.PredBegins, Column: "m", Value: v, Op: 1}, api.ErrArg)
		}
		mustRefuse(t, ch, api.Pred{Kind: api.PredBegins, Column: "n", Value: word("a"), Op: 1, List: nums(1)}, api.ErrOp)
		mustRefuse(t, ch, api.Pred{Kind: api.PredBegins, Column: "m", Value: word("a")}, api.ErrColumn)
	}
}

// TestP19_1Names: the one column is the chunk's, by whatever name it has.
func TestP19_1Names(t *testing.T) {
	names := []string{"n", "", "N", "nn", "a b", "\x00", "\xff"}
	for _, name := range names {
		col := api.Column{Name: name, Type: api.Int, Null: true}
		ch, _ := opened(t, col, []api.Value{num(5), null}, api.Codec{Kind: api.Plain})
		for _, other := range names {
			p := compared(api.Eq, 5)
			p.Column = other
			if other != name {
				mustRefuse(t, ch, p, api.ErrColumn)
				continue
			}
			yes, unknown, e := ints.Test(ch, p)
			if e != api.OK {
				t.Fatalf("%q: %d", name, e)
			}
			mustBe(t, name, yes, 2, []uint64{1})
			mustBe(t, name, unknown, 2, []uint64{2})
		}
	}
}

package ints_test

import (
	"fmt"
	"math"
	"math/rand/v2"
	"slices"
	"testing"

	"colonnade/api"
	"colonnade/bits"
	"colonnade/chunk"
	"colonnade/ints"
)

const (
	least    = math.MinInt64
	greatest = math.MaxInt64
)

// The columns of these tests: numbers with nulls and without them, and texts.
var (
	withNulls = api.Column{Name: "n", Type: api.Int, Null: true}
	noNulls   = api.Column{Name: "n", Type: api.Int}
	ofTexts   = api.Column{Name: "n", Type: api.Text, Null: true}
)

var null = api.Value{}

func num(i int64) api.Value   { return api.Value{Kind: api.Int, Int: i} }
func word(s string) api.Value { return api.Value{Kind: api.Text, Text: s} }

func nums(l ...int64) []api.Value {
	var out []api.Value
	for _, i := range l {
		out = append(out, num(i))
	}
	return out
}

func compared(op int, c int64) api.Pred {
	return api.Pred{Kind: api.PredCompare, Column: "n", Op: op, Value: num(c)}
}

func in(l ...int64) api.Pred {
	return api.Pred{Kind: api.PredIn, Column: "n", List: nums(l...)}
}

func between(lo, hi int64) api.Pred {
	return api.Pred{Kind: api.PredBetween, Column: "n", List: nums(lo, hi)}
}

func isNull() api.Pred { return api.Pred{Kind: api.PredNull, Column: "n"} }

func ops() []int { return []int{api.Eq, api.Ne, api.Lt, api.Le, api.Gt, api.Ge} }

// stands is how a number stands to another one, Op by Op.
func stands[T int64 | uint64](op int, v, c T) bool {
	switch op {
	case 1:
		return v == c
	case 2:
		return v != c
	case 3:
		return v < c
	case 4:
		return v < c || v == c
	case 5:
		return c < v
	case 6:
		return c < v || v == c
	}
	panic("no Op")
}

// says is a plain reading of what an atom of numbers says of one of them.
func says(p api.Pred, v int64) bool {
	switch p.Kind {
	case api.PredCompare:
		return stands(p.Op, v, p.Value.Int)
	case api.PredBetween:
		return p.List[0].Int <= v && v <= p.List[1].Int
	case api.PredIn:
		for _, w := range p.List {
			if w.Int == v {
				return true
			}
		}
	}
	return false
}

// read is a plain reading of what Test answers of values, as the words of both sets.
func read(p api.Pred, l []api.Value) (yes, unknown []uint64) {
	yes, unknown = make([]uint64, (len(l)+63)/64), make([]uint64, (len(l)+63)/64)
	for i, v := range l {
		bit := uint64(1) << (i % 64)
		switch {
		case v.Kind == api.Null && p.Kind == api.PredNull, v.Kind == api.Int && says(p, v.Int):
			yes[i/64] |= bit
		case v.Kind == api.Null:
			unknown[i/64] |= bit
		}
	}
	return yes, unknown
}

// mustBe fails, unless a set has a length and words.
func mustBe(t *testing.T, what string, s *bits.Set, n int, words []uint64) {
	t.Helper()
	if s == nil || s.Len() != n || !slices.Equal(s.Words(), words) {
		t.Fatalf("%s: a set of length %d, %x; want length %d, %x", what, s.Len(), s.Words(), n, words)
	}
}

// mustSay holds Test against the plain reading, of chunks of the same values.
func mustSay(t *testing.T, all []*chunk.Chunk, l []api.Value, p api.Pred) {
	t.Helper()
	wantYes, wantUnknown := read(p, l)
	for _, ch := range all {
		yes, unknown, e := ints.Test(ch, p)
		if e != api.OK {
			t.Fatalf("Test of %s by %v, %s: error %d", brief(l), ch.Codec(), brief(p), e)
		}
		if yes == nil || unknown == nil || yes.Len() != len(l) || unknown.Len() != len(l) || !slices.Equal(yes.Words(), wantYes) || !slices.Equal(unknown.Words(), wantUnknown) {
			t.Fatalf("Test of %s by %v, %s: %x of %d, unknown %x of %d; want %x, unknown %x", brief(l), ch.Codec(), brief(p), yes.Words(), yes.Len(), unknown.Words(), unknown.Len(), wantYes, wantUnknown)
		}
	}
}

// mustRefuse fails, unless Test answers an error, and nothing beside it.
func mustRefuse(t *testing.T, ch *chunk.Chunk, p api.Pred, want api.Errno) {
	t.Helper()
	if yes, unknown, e := ints.Test(ch, p); e != want || yes != nil || unknown != nil {
		t.Fatalf("Test of a chunk of %v, %s: %v, %v, %d; want error %d alone", ch.Column(), brief(p), yes, unknown, e, want)
	}
}

// opened is a chunk of values by a codec, if they fit it.
func opened(t *testing.T, col api.Column, l []api.Value, c api.Codec) (*chunk.Chunk, bool) {
	t.Helper()
	b, e := chunk.Encode(col, l, c)
	if e == api.ErrUnfit {
		return nil, false
	}
	if e != api.OK {
		t.Fatalf("Encode(%v, %s, %v): %d", col, brief(l), c, e)
	}
	ch, e := chunk.Open(col, len(l), b)
	if e != api.OK {
		t.Fatalf("Open(%v, %s, %v): %d", col, brief(l), c, e)
	}
	return ch, true
}

// chunksOf are chunks of the same numbers: by every codec, and each width that fits of those that are named.
func chunksOf(t *testing.T, col api.Column, l []api.Value, widths []int) []*chunk.Chunk {
	t.Helper()
	codecs := chunk.Fit(col, l)
	for _, width := range widths {
		codecs = append(codecs, api.Codec{Kind: api.Frame, Width: width}, api.Codec{Kind: api.Packed, Width: width})
	}
	var out []*chunk.Chunk
	for _, c := range codecs {
		if ch, is := opened(t, col, l, c); is {
			out = append(out, ch)
		}
	}
	return out
}

// someWidths are few of the widths, everyWidth all of them.
func someWidths() []int { return []int{1, 2, 3, 7, 8, 9, 16, 31, 33, 62, 63, 64} }

func everyWidth() []int {
	var out []int
	for width := range 65 {
		out = append(out, width)
	}
	return out
}

// upTo are the numbers from one on, a step each.
func upTo(from, step int64, n int) []api.Value {
	var out []api.Value
	for i := range n {
		out = append(out, num(from+step*int64(i)))
	}
	return out
}

// denseLists are numbers in the order of rising, falling and alike, from none on, to both ends of int64.
func denseLists() [][]api.Value {
	return [][]api.Value{
		nil, nums(0), nums(5), nums(-1), nums(least), nums(greatest),
		upTo(100, 1, 8), upTo(107, -1, 8), upTo(-4, 3, 9), upTo(20, -7, 9), upTo(0, 1, 64), upTo(63, -1, 65),
		slices.Repeat(nums(7), 3), slices.Repeat(nums(-7), 70), slices.Repeat(nums(greatest), 9), slices.Repeat(nums(least), 9),
		nums(least, greatest), nums(greatest, least, 0, -1, 1), nums(least, least+1), nums(greatest, greatest-1), nums(least+2, least, least+5),
		upTo(greatest-6, 1, 7), upTo(greatest-12, 3, 5), upTo(least, 1, 7), upTo(least+12, -3, 5), nums(greatest-1, greatest-5, greatest-1),
		nums(5, 5, 7, 7, 7, 5, 9, 9, -3, -3, -3), slices.Concat(slices.Repeat(nums(1), 63), slices.Repeat(nums(2), 66), nums(1)),
		nums(0, 1<<62, 1<<63-1), nums(-1<<62, 1<<62, 0), nums(1<<32, 1<<32-1, 1<<31), nums(255, 256, 0), nums(3, 1, 2), nums(0, 0, 1, 1), nums(2, 4, 6, 8, 10),
	}
}

// nullLists have nulls among the numbers: at each end, between all of them, at some places, and nothing but nulls.
func nullLists() [][]api.Value {
	var out [][]api.Value
	for _, l := range denseLists() {
		var often []api.Value
		for i, v := range l {
			if often = append(often, v); i%3 != 1 {
				often = append(often, null)
			}
		}
		out = append(out, slices.Concat([]api.Value{null}, l), slices.Concat(l, []api.Value{null}), slices.Concat([]api.Value{null, null}, often))
	}
	for _, n := range []int{1, 2, 63, 64, 65, 130} {
		out = append(out, make([]api.Value, n))
	}
	return append(out, slices.Concat(make([]api.Value, 64), nums(5), make([]api.Value, 64), nums(6)))
}

func allLists() [][]api.Value { return slices.Concat(denseLists(), nullLists()) }

// byChance is a source of numbers, the same in each run.
func byChance(seed uint64) *rand.Rand { return rand.New(rand.NewPCG(19, seed)) }

// someList is n values by chance: near to one another or far, in runs or not, with nulls or without.
func someList(r *rand.Rand, n int) []api.Value {
	base, near := int64(r.Uint64())>>r.IntN(64), r.IntN(64)
	stays, lacks := r.IntN(10), r.IntN(9)
	l := make([]api.Value, n)
	for i := range l {
		switch {
		case r.IntN(10) < lacks-3:
		case i > 0 && r.IntN(10) < stays:
			l[i] = l[i-1]
		default:
			l[i] = num(base + int64(r.Uint64())>>near)
		}
	}
	return l
}

// numbersIn are the numbers among values, rising, each once.
func numbersIn(l []api.Value) []int64 {
	var out []int64
	for _, v := range l {
		if v.Kind == api.Int {
			out = append(out, v.Int)
		}
	}
	slices.Sort(out)
	return slices.Compact(out)
}

// constantsFor are numbers to hold values against: each of the outer ones and its neighbours, the midst between two, the ends of frames above the least, and of all numbers.
func constantsFor(l []api.Value) []int64 {
	out := []int64{least, least + 1, -1, 0, 1, greatest - 1, greatest}
	there := numbersIn(l)
	if len(there) > 0 {
		for _, width := range []int{1, 3, 4, 8, 62, 63} {
			out = append(out, there[0]+1<<width-1, there[0]+1<<width, 1<<width-1, 1<<width)
		}
	}
	for i, v := range there {
		if i > 4 && i < len(there)-4 {
			continue
		}
		out = append(out, v-1, v, v+1) // they wrap round at the ends, to the other end
		if i > 0 {
			out = append(out, there[i-1]/2+v/2)
		}
	}
	slices.Sort(out)
	return slices.Compact(out)
}

// listsFor are lists for PredIn: none, one, the same twice, two in both orders, all at once, as many as there may be.
func listsFor(c []int64) [][]int64 {
	out := [][]int64{nil, c, slices.Concat(c, c)}
	for i, v := range c {
		w := c[(i*7+3)%len(c)]
		out = append(out, []int64{v}, []int64{v, v}, []int64{v, w}, []int64{w, v, w}, c[i:])
	}
	many := slices.Clone(c)
	for i := 0; len(many) < api.MaxList; i++ {
		many = append(many, c[i%len(c)]+int64(i*3))
	}
	slices.Reverse(many)
	return append(out, many, slices.Repeat(c[:1], api.MaxList))
}

// comparesFor, betweensFor, insFor are atoms for values, of one Kind each.
func comparesFor(l []api.Value) []api.Pred {
	var out []api.Pred
	for _, c := range constantsFor(l) {
		for _, op := range ops() {
			out = append(out, compared(op, c))
		}
	}
	return out
}

func betweensFor(l []api.Value) []api.Pred {
	var out []api.Pred
	c := constantsFor(l)
	for i, lo := range c {
		for k, hi := range c {
			if len(c) < 24 || i == 0 || k == 0 || i-k < 3 && k-i < 3 || (i+k)%5 == 0 {
				out = append(out, between(lo, hi))
			}
		}
	}
	return out
}

func insFor(l []api.Value) []api.Pred {
	var out []api.Pred
	for _, list := range listsFor(constantsFor(l)) {
		out = append(out, in(list...))
	}
	return out
}

func atomsFor(l []api.Value) []api.Pred {
	return slices.Concat([]api.Pred{isNull()}, comparesFor(l), betweensFor(l), insFor(l))
}

// someAtom is one by chance, its numbers near to those of a list.
func someAtom(r *rand.Rand, l []api.Value) api.Pred {
	c := constantsFor(l)
	one := func() int64 { return c[r.IntN(len(c))] }
	switch r.IntN(8) {
	case 0:
		return isNull()
	case 1, 2:
		return between(one(), one())
	case 3, 4:
		list := make([]int64, r.IntN(6)*r.IntN(12))
		for i := range list {
			list[i] = one()
		}
		return in(list...)
	}
	return compared(1+r.IntN(6), one())
}

// brief is a thing as text, cut where it is long.
func brief(v any) string {
	s := fmt.Sprintf("%v", v)
	if len(s) > 300 {
		return s[:300] + ".."
	}
	return s
}

package chunk_test

import (
	"math"
	"reflect"
	"slices"
	"testing"

	"colonnade/api"
	"colonnade/bits"
	"colonnade/chunk"
	"colonnade/runs"
	"colonnade/sel"
)

func sameSet(a, b *bits.Set) bool {
	return a != nil && b != nil && a.Len() == b.Len() && slices.Equal(a.Words(), b.Words())
}

// setOf is the set of the places at which a list has a 1.
func setOf(l []uint64) *bits.Set {
	b := make([]bool, len(l))
	for i, v := range l {
		b[i] = v == 1
	}
	return bits.Of(b...)
}

func mustValue(t *testing.T, c *chunk.Chunk, i int, want api.Value, is bool) {
	t.Helper()
	if v, got := c.Value(i); v != want || got != is {
		t.Fatalf("Value(%d): %v, %t; want %v, %t", i, v, got, want, is)
	}
}

func mustGather(t *testing.T, c *chunk.Chunk, s sel.Sel, want []api.Value) {
	t.Helper()
	if l, e := c.Gather(s); e != api.OK || !slices.Equal(l, want) {
		t.Fatalf("Gather(%s): %s, %d; want %s", brief(s.List()), brief(l), e, brief(want))
	}
}

func mustNotGather(t *testing.T, c *chunk.Chunk, s sel.Sel, want api.Errno) {
	t.Helper()
	if l, e := c.Gather(s); e != want || l != nil {
		t.Fatalf("Gather(%s): %s, %d; want %d", brief(s), brief(l), e, want)
	}
}

// plainly is a body whose lists are nil where they are empty.
func plainly(b chunk.Body) chunk.Body {
	switch x := b.(type) {
	case chunk.IntPlain:
		return chunk.IntPlain{Values: append([]int64(nil), x.Values...)}
	case chunk.IntDict:
		return chunk.IntDict{Keys: append([]int64(nil), x.Keys...), Codes: append([]byte(nil), x.Codes...), Width: x.Width, N: x.N}
	case chunk.IntRuns:
		return chunk.IntRuns{Runs: append([]runs.Run[int64](nil), x.Runs...)}
	case chunk.IntFrame:
		return chunk.IntFrame{Base: x.Base, Lanes: append([]byte(nil), x.Lanes...), Width: x.Width, N: x.N}
	case chunk.TextPlain:
		return chunk.TextPlain{Values: append([]string(nil), x.Values...)}
	case chunk.TextDict:
		return chunk.TextDict{Keys: append([]string(nil), x.Keys...), Codes: append([]byte(nil), x.Codes...), Width: x.Width, N: x.N}
	case chunk.TextRuns:
		return chunk.TextRuns{Runs: append([]runs.Run[string](nil), x.Runs...)}
	}
	return nil
}

func mustBody(t *testing.T, c *chunk.Chunk, want chunk.Body) {
	t.Helper()
	if b := c.Body(); b == nil || !reflect.DeepEqual(plainly(b), plainly(want)) {
		t.Fatalf("Body(): %T %s; want %T %s", b, brief(b), want, brief(want))
	}
	if n := c.Body().Count(); n != want.Count() || n != c.Count() {
		t.Fatalf("Body().Count(): %d of %d", n, c.Count())
	}
}

// mustTell holds each answer of a chunk against its column, its values and its codec.
func mustTell(t *testing.T, c *chunk.Chunk, col api.Column, l []api.Value, codec api.Codec) {
	t.Helper()
	if c.Rows() != len(l) || c.Column() != col || c.Codec() != codec || c.Count() != len(denseOf(l)) {
		t.Fatalf("%s by %v: %d rows of %v by %v, %d not Null", brief(l), codec, c.Rows(), c.Column(), c.Codec(), c.Count())
	}
	if !sameSet(c.Nulls(), setOf(nullBits(l))) {
		t.Fatalf("%s by %v: the nulls are %v", brief(l), codec, slices.Collect(c.Nulls().All()))
	}
	if got := c.Values(); !slices.Equal(got, l) {
		t.Fatalf("%s by %v: Values() are %s", brief(l), codec, brief(got))
	}
	for i, v := range l {
		mustValue(t, c, i, v, true)
	}
	for _, i := range []int{math.MinInt, -64, -1, len(l), len(l) + 1, len(l) + 64, 1 << 32, math.MaxInt} {
		mustValue(t, c, i, api.Value{}, false)
	}
	mustBody(t, c, plainBody(col, l, codec))
}

// eachChunk opens the chunks of many lists by every codec that fits, and by some greater widths.
func eachChunk(t *testing.T, seed uint64, look func(c *chunk.Chunk, col api.Column, l []api.Value, codec api.Codec)) {
	t.Helper()
	for i, col := range goodColumns() {
		for _, l := range manyLists(col, seed+uint64(i)) {
			for _, b := range formsOf(col, l) {
				look(mustOpen(t, col, len(l), b), col, l, api.Codec{Kind: int(b[0]), Width: int(b[1])})
			}
		}
	}
}

func TestP12_4Tell(t *testing.T) {
	eachChunk(t, 600, func(c *chunk.Chunk, col api.Column, l []api.Value, codec api.Codec) {
		mustTell(t, c, col, l, codec)
	})
}

// TestP12_4AnyOrder: a value is told whatever was asked ahead of it.
func TestP12_4AnyOrder(t *testing.T) {
	r := byChance(1)
	eachChunk(t, 700, func(c *chunk.Chunk, _ api.Column, l []api.Value, _ api.Codec) {
		for range min(len(l), 20) {
			i := r.IntN(len(l))
			mustValue(t, c, i, l[i], true)
		}
		for i := len(l) - 1; i >= 0 && i > len(l)-20; i-- {
			mustValue(t, c, i, l[i], true)
		}
	})
}

// chosen are rows of n: none, all, the first, the last, every other, few and many by chance.
func chosen(n int, seed uint64) [][]int {
	r := byChance(seed)
	out := make([][]int, 7)
	for i := range n {
		out[1] = append(out[1], i)
		if i == 0 {
			out[2] = append(out[2], i)
		}
		if i == n-1 {
			out[3] = append(out[3], i)
		}
		if i%2 == 1 {
			out[4] = append(out[4], i)
		}
		if r.IntN(40) == 0 {
			out[5] = append(out[5], i)
		}
		if r.IntN(3) > 0 {
			out[6] = append(out[6], i)
		}
	}
	return out
}

// asSets are selections of these rows: in the form that layer 4 answers, and as sets.
func asSets(t *testing.T, n int, rows []int) []sel.Sel {
	t.Helper()
	set := bits.New(n)
	for _, i := range rows {
		set.Put(i, true)
	}
	s, e := sel.At(n, rows)
	if e != api.OK {
		t.Fatalf("sel.At(%d, %v): %d", n, rows, e)
	}
	all := []sel.Sel{s, sel.Make(set), sel.Dense{Set: set}}
	// A Dense that loses its rows stays one, however few are left.
	if d, is := sel.Whole(n).(sel.Dense); is {
		for i := range n {
			d.Put(i, set.Get(i))
		}
		all = append(all, d)
	}
	return all
}

func TestP12_5Gather(t *testing.T) {
	eachChunk(t, 800, func(c *chunk.Chunk, _ api.Column, l []api.Value, _ api.Codec) {
		for _, rows := range chosen(len(l), uint64(len(l))) {
			want := make([]api.Value, 0, len(rows))
			for _, i := range rows {
				want = append(want, l[i])
			}
			for _, s := range asSets(t, len(l), rows) {
				mustGather(t, c, s, want)
			}
		}
	})
}

// TestP12_5BothForms: the selections above are of both forms.
func TestP12_5BothForms(t *testing.T) {
	forms := map[string]int{}
	for _, n := range []int{40, 200} {
		for _, rows := range chosen(n, uint64(n)) {
			for _, s := range asSets(t, n, rows) {
				forms[reflect.TypeOf(s).Name()]++
			}
		}
	}
	if forms["Dense"] == 0 || forms["Sparse"] == 0 {
		t.Errorf("%v", forms)
	}
}

func TestP12_5Errors(t *testing.T) {
	for _, l := range [][]api.Value{nil, numbers(5), {one(5), {}, one(6)}, nulls(70)} {
		b, _ := plainForm(intNull, l, api.Codec{Kind: api.Runs})
		c := mustOpen(t, intNull, len(l), b)
		for _, s := range []sel.Sel{nil, sel.Dense{}, sel.Sparse{}} {
			mustNotGather(t, c, s, api.ErrNil)
		}
		for _, n := range []int{0, 1, 2, 3, 4, 64, 69, 70, 71, api.MaxRows} {
			if n != len(l) {
				mustNotGather(t, c, sel.None(n), api.ErrSize)
				mustNotGather(t, c, sel.Whole(n), api.ErrSize)
			}
		}
		mustGather(t, c, sel.Whole(len(l)), l)
		mustGather(t, c, sel.None(len(l)), nil)
	}
	c := mustOpen(t, intNull, 0, []byte{1, 0, 0})
	mustGather(t, c, sel.Dense{Set: &bits.Set{}}, nil) // a set's zero value is one of length 0
}

func TestP12_6Bodies(t *testing.T) {
	n := api.Value{}
	for _, x := range []struct {
		col  api.Column
		l    []api.Value
		c    api.Codec
		want chunk.Body
	}{
		{intNull, []api.Value{one(7), n, one(-3)}, api.Codec{Kind: api.Plain}, chunk.IntPlain{Values: []int64{7, -3}}},
		{intNull, []api.Value{one(7), n, one(-3), one(7)}, api.Codec{Kind: api.Dict}, chunk.IntDict{Keys: []int64{-3, 7}, Codes: []byte{5}, Width: 1, N: 3}},
		{intNull, numbers(7, 7), api.Codec{Kind: api.Dict}, chunk.IntDict{Keys: []int64{7}, Width: 0, N: 2}},
		{intNull, []api.Value{one(7), n, one(7), one(-3)}, api.Codec{Kind: api.Runs}, chunk.IntRuns{Runs: []runs.Run[int64]{{Value: 7, N: 2}, {Value: -3, N: 1}}}},
		{intNull, []api.Value{n, one(-3), one(0)}, api.Codec{Kind: api.Frame, Width: 4}, chunk.IntFrame{Base: -3, Lanes: []byte{0x30}, Width: 4, N: 2}},
		{intNull, []api.Value{n, one(3), one(0)}, api.Codec{Kind: api.Packed, Width: 4}, chunk.IntFrame{Base: 0, Lanes: []byte{3}, Width: 4, N: 2}},
		{intNull, numbers(3, 5), api.Codec{Kind: api.Packed, Width: 4}, chunk.IntFrame{Base: 0, Lanes: []byte{0x53}, Width: 4, N: 2}},
		{intNull, numbers(3, 5), api.Codec{Kind: api.Frame, Width: 4}, chunk.IntFrame{Base: 3, Lanes: []byte{0x20}, Width: 4, N: 2}},
		{textNull, []api.Value{word("x"), n, word("")}, api.Codec{Kind: api.Plain}, chunk.TextPlain{Values: []string{"x", ""}}},
		{textNull, []api.Value{word("x"), n, word(""), word("y")}, api.Codec{Kind: api.Dict}, chunk.TextDict{Keys: []string{"", "x", "y"}, Codes: []byte{0x21}, Width: 2, N: 3}},
		{textNull, []api.Value{word("x"), n, word("x"), word("")}, api.Codec{Kind: api.Runs}, chunk.TextRuns{Runs: []runs.Run[string]{{Value: "x", N: 2}, {Value: "", N: 1}}}},
		{intNull, nulls(3), api.Codec{Kind: api.Frame, Width: 9}, chunk.IntFrame{Width: 9}},
		{intNull, nulls(3), api.Codec{Kind: api.Plain}, chunk.IntPlain{}},
		{textNull, nulls(3), api.Codec{Kind: api.Plain}, chunk.TextPlain{}},
		{textNull, nulls(3), api.Codec{Kind: api.Dict}, chunk.TextDict{}},
		{textNull, nulls(3), api.Codec{Kind: api.Runs}, chunk.TextRuns{}},
	} {
		b, e := plainForm(x.col, x.l, x.c)
		if e != api.OK {
			t.Fatalf("%v by %v: %d", x.l, x.c, e)
		}
		mustBody(t, mustOpen(t, x.col, len(x.l), b), x.want)
	}
}

// TestP12_6Count: of bodies that no chunk answered as well, by a method of the struct itself.
func TestP12_6Count(t *testing.T) {
	for _, x := range []struct {
		b    chunk.Body
		want int
	}{
		{chunk.IntPlain{}, 0}, {chunk.IntPlain{Values: []int64{4, 4, 5}}, 3},
		{chunk.TextPlain{}, 0}, {chunk.TextPlain{Values: []string{"", ""}}, 2},
		{chunk.IntDict{}, 0}, {chunk.IntDict{Keys: []int64{1, 2}, Codes: []byte{0, 0, 0}, Width: 1, N: 17}, 17}, {chunk.IntDict{N: -1}, -1},
		{chunk.TextDict{}, 0}, {chunk.TextDict{Keys: []string{"a"}, N: 9}, 9},
		{chunk.IntFrame{}, 0}, {chunk.IntFrame{Base: 7, Lanes: []byte{1}, Width: 1, N: 6}, 6},
		{chunk.IntRuns{}, 0}, {chunk.IntRuns{Runs: []runs.Run[int64]{{Value: 5, N: 3}, {Value: 5, N: 4}}}, 7},
		{chunk.TextRuns{}, 0}, {chunk.TextRuns{Runs: []runs.Run[string]{{Value: "", N: 1}, {Value: "a", N: 1 << 24}}}, 1<<24 + 1},
	} {
		if got := x.b.Count(); got != x.want {
			t.Errorf("%T %v: %d, want %d", x.b, x.b, got, x.want)
		}
	}
}

func mustSpread(t *testing.T, dense, nulls, want *bits.Set) {
	t.Helper()
	if s, e := chunk.Spread(dense, nulls); e != api.OK || !sameSet(s, want) {
		t.Fatalf("Spread of %d and %d: %d", dense.Len(), nulls.Len(), e)
	}
}

func mustNotSpread(t *testing.T, dense, nulls *bits.Set, want api.Errno) {
	t.Helper()
	if s, e := chunk.Spread(dense, nulls); e != want || s != nil {
		t.Fatalf("Spread of %d and %d: %d, want %d", dense.Len(), nulls.Len(), e, want)
	}
}

// plainSpread is P12.7, row by row.
func plainSpread(dense, nulls []uint64) []uint64 {
	out := make([]uint64, len(nulls))
	for i := range nulls {
		if nulls[i] == 1 {
			continue
		}
		others := 0
		for j := range i {
			others += int(1 - nulls[j])
		}
		out[i] = dense[others]
	}
	return out
}

// digits are the lowest n bits of a number.
func digits(v, n int) []uint64 {
	out := make([]uint64, n)
	for i := range out {
		out[i] = uint64(v >> i & 1)
	}
	return out
}

// TestP12_7EverySet: all sets of up to six numbers.
func TestP12_7EverySet(t *testing.T) {
	for n := range 7 {
		for v := range 1 << n {
			missing := digits(v, n)
			count := 0
			for _, bit := range missing {
				count += int(1 - bit)
			}
			for k := range n + 3 {
				for w := range 1 << k {
					dense := digits(w, k)
					if k == count {
						mustSpread(t, setOf(dense), setOf(missing), setOf(plainSpread(dense, missing)))
					} else {
						mustNotSpread(t, setOf(dense), setOf(missing), api.ErrSize)
					}
				}
			}
		}
	}
}

func TestP12_7LongSets(t *testing.T) {
	r := byChance(2)
	for _, n := range []int{62, 63, 64, 65, 66, 127, 128, 129, 192, 300, 1000} {
		for share := range 6 {
			missing, dense := make([]uint64, n), []uint64{}
			for i := range missing {
				if r.IntN(5) < share {
					missing[i] = 1
				} else {
					dense = append(dense, r.Uint64N(2))
				}
			}
			mustSpread(t, setOf(dense), setOf(missing), setOf(plainSpread(dense, missing)))
			mustNotSpread(t, bits.New(len(dense)+1), setOf(missing), api.ErrSize)
			mustNotSpread(t, bits.New(len(dense)+64), setOf(missing), api.ErrSize)
			if len(dense) > 0 {
				mustNotSpread(t, setOf(dense[1:]), setOf(missing), api.ErrSize)
			}
			if len(dense) < n {
				mustNotSpread(t, bits.New(n), setOf(missing), api.ErrSize)
			}
		}
	}
}

func TestP12_7NotThere(t *testing.T) {
	for _, s := range []*bits.Set{nil, bits.New(0), bits.Of(true), bits.New(api.MaxRows)} {
		mustNotSpread(t, s, nil, api.ErrNil)
		mustNotSpread(t, nil, s, api.ErrNil)
	}
	// A set's zero value is one of length 0.
	mustSpread(t, &bits.Set{}, &bits.Set{}, bits.New(0))
	mustSpread(t, &bits.Set{}, bits.Of(true, true), bits.New(2))
	mustNotSpread(t, &bits.Set{}, bits.Of(true, false), api.ErrSize)
}

// TestP12_8NotThere: a chunk that is nil, and one that is a zero value.
func TestP12_8NotThere(t *testing.T) {
	for _, c := range []*chunk.Chunk{nil, {}, new(chunk.Chunk)} {
		if c.Rows() != 0 || c.Count() != 0 || c.Column() != (api.Column{}) || c.Codec() != (api.Codec{}) || c.Nulls() != nil || c.Body() != nil || len(c.Values()) != 0 {
			t.Errorf("%v: %d, %d, %v, %v, %v, %v, %v", c, c.Rows(), c.Count(), c.Column(), c.Codec(), c.Nulls(), c.Body(), c.Values())
		}
		for _, i := range []int{math.MinInt, -1, 0, 1, math.MaxInt} {
			mustValue(t, c, i, api.Value{}, false)
		}
		for _, s := range []sel.Sel{nil, sel.Dense{}, sel.Sparse{}, sel.Whole(0), sel.None(0), sel.Whole(3), sel.None(100)} {
			mustNotGather(t, c, s, api.ErrNil)
		}
	}
}

// TestP12_8NoValues: a chunk without values is there.
func TestP12_8NoValues(t *testing.T) {
	for _, col := range goodColumns() {
		for _, b := range formsOf(col, nil) {
			c := mustOpen(t, col, 0, b)
			if c.Nulls() == nil || c.Body() == nil || c.Column() != col || c.Codec().Kind != int(b[0]) {
				t.Errorf("%v of % X", c, b)
			}
			mustGather(t, c, sel.Whole(0), nil)
		}
	}
}

package chunk_test

import (
	"math"
	"slices"
	"strconv"
	"strings"
	"testing"

	"colonnade/api"
	"colonnade/chunk"
)

func mustEncode(t *testing.T, col api.Column, l []api.Value, c api.Codec, want []byte) {
	t.Helper()
	if b, e := chunk.Encode(col, l, c); e != api.OK || !slices.Equal(b, want) {
		t.Fatalf("Encode(%v, %s, %v): %s, %d; want %s", col, brief(l), c, brief(b), e, brief(want))
	}
}

func mustNotEncode(t *testing.T, col api.Column, l []api.Value, c api.Codec, want api.Errno) {
	t.Helper()
	if b, e := chunk.Encode(col, l, c); e != want || b != nil {
		t.Fatalf("Encode(%v, %s, %v): %s, %d; want %d", col, brief(l), c, brief(b), e, want)
	}
}

func mustFit(t *testing.T, col api.Column, l []api.Value, want []api.Codec) {
	t.Helper()
	if got := chunk.Fit(col, l); !slices.Equal(got, want) {
		t.Fatalf("Fit(%v, %s): %v, want %v", col, brief(l), got, want)
	}
}

func mustBest(t *testing.T, col api.Column, l []api.Value, want api.Codec) {
	t.Helper()
	if got := chunk.Best(col, l); got != want {
		t.Fatalf("Best(%v, %s): %v, want %v", col, brief(l), got, want)
	}
}

// encodeAsPlain holds Encode against the plain reading.
func encodeAsPlain(t *testing.T, col api.Column, l []api.Value, c api.Codec) {
	t.Helper()
	want, e := plainForm(col, l, c)
	if e != api.OK {
		mustNotEncode(t, col, l, c, e)
		return
	}
	mustEncode(t, col, l, c, want)
}

// TestP12_1EveryCodec: every Kind from 0 to 6 and every Width from -1 to 65, with columns of both types.
func TestP12_1EveryCodec(t *testing.T) {
	for _, col := range goodColumns() {
		lists := edgeLists(col)
		for i := 0; i < len(lists); i += 1 + len(lists)/25 {
			for _, c := range allCodecs() {
				if len(lists[i]) < 400 || c.Width < 1 {
					encodeAsPlain(t, col, lists[i], c)
				}
			}
		}
	}
}

// TestP12_1ManyValues: many lists by every codec that fits, and by widths around the least one.
func TestP12_1ManyValues(t *testing.T) {
	for i, col := range goodColumns() {
		for _, l := range manyLists(col, uint64(i)) {
			for _, c := range plainFit(col, l) {
				encodeAsPlain(t, col, l, c)
				for _, width := range []int{c.Width - 1, c.Width + 1, 63, 64, 65} {
					encodeAsPlain(t, col, l, api.Codec{Kind: c.Kind, Width: width})
				}
			}
		}
	}
}

// TestP12_1Form: forms written out by hand.
func TestP12_1Form(t *testing.T) {
	n := api.Value{}
	two := []byte{3, 0, 0, 0, 0, 0, 0, 0, 7, 0, 0, 0, 0, 0, 0, 0}
	minus := []byte{254, 255, 255, 255, 255, 255, 255, 255}
	for _, x := range []struct {
		col  api.Column
		l    []api.Value
		c    api.Codec
		want []byte
	}{
		{intCol, nil, api.Codec{Kind: 1}, []byte{1, 0, 0}},
		{intCol, nil, api.Codec{Kind: 2}, []byte{2, 0, 0, 0}},
		{intCol, nil, api.Codec{Kind: 3}, []byte{3, 0, 0, 0}},
		{intCol, nil, api.Codec{Kind: 4, Width: 64}, []byte{4, 64, 0, 0, 0, 0, 0, 0, 0, 0, 0}},
		{intCol, nil, api.Codec{Kind: 5, Width: 64}, []byte{5, 64, 0}},
		{textCol, nil, api.Codec{Kind: 1}, []byte{1, 0, 0, 0, 0, 0, 0}},
		{textCol, nil, api.Codec{Kind: 2}, []byte{2, 0, 0, 0, 0, 0, 0, 0}},
		{textCol, nil, api.Codec{Kind: 3}, []byte{3, 0, 0, 0}},
		{intNull, numbers(3, 7), api.Codec{Kind: 1}, append([]byte{1, 0, 0}, two...)},
		{intNull, []api.Value{n, one(3), n, n, one(7)}, api.Codec{Kind: 1}, append([]byte{1, 0, 3, 13}, two...)},
		{intCol, numbers(7, 3, 7), api.Codec{Kind: 2}, slices.Concat([]byte{2, 0, 0, 2}, two, []byte{5})},
		{intCol, numbers(-1, -1, 1), api.Codec{Kind: 3}, []byte{3, 0, 0, 2, 2, 1, 1, 2}},
		{intCol, numbers(-2, 1), api.Codec{Kind: 4, Width: 2}, slices.Concat([]byte{4, 2, 0}, minus, []byte{12})},
		{intCol, numbers(5, 2), api.Codec{Kind: 5, Width: 3}, []byte{5, 3, 0, 21}},
		{intNull, []api.Value{n, n, n}, api.Codec{Kind: 5, Width: 9}, []byte{5, 9, 3, 7}},
		{textNull, []api.Value{word("ab"), n, word("")}, api.Codec{Kind: 1}, []byte{1, 0, 1, 2, 0, 0, 0, 0, 2, 0, 0, 0, 2, 0, 0, 0, 97, 98}},
		{textNull, []api.Value{word("b"), word("a"), n, word("b")}, api.Codec{Kind: 2}, []byte{2, 0, 1, 4, 2, 0, 0, 0, 0, 1, 0, 0, 0, 2, 0, 0, 0, 97, 98, 5}},
		{textNull, []api.Value{word("x"), n, word("x"), word("")}, api.Codec{Kind: 3}, []byte{3, 0, 1, 2, 2, 2, 1, 120, 1, 0}},
		{textNull, append(nulls(8), word("")), api.Codec{Kind: 3}, []byte{3, 0, 8, 255, 0, 1, 1, 0}},
		{textNull, nulls(9), api.Codec{Kind: 3}, []byte{3, 0, 9, 255, 1, 0}},
		{intNull, nulls(128), api.Codec{Kind: 1}, append([]byte{1, 0, 128, 1}, slices.Repeat([]byte{255}, 16)...)},
	} {
		mustEncode(t, x.col, x.l, x.c, x.want)
	}
}

// TestP12_1Order: where several errors hold, the first one that the promise names is told.
func TestP12_1Order(t *testing.T) {
	var many []api.Value
	if !testing.Short() {
		many = make([]api.Value, api.MaxRows+1)
	}
	noCodec, unfit := api.Codec{Kind: 9, Width: -1}, api.Codec{Kind: api.Packed}
	for _, kind := range []int{math.MinInt, -1, api.Null, api.Real, 4, math.MaxInt} {
		bad := api.Column{Name: "a", Type: kind, Null: true}
		for _, l := range [][]api.Value{nil, numbers(5), words("x"), nulls(1), {{Kind: kind}}, many} {
			for _, c := range []api.Codec{{Kind: api.Plain}, unfit, noCodec} {
				mustNotEncode(t, bad, l, c, api.ErrSchema)
			}
			mustFit(t, bad, l, nil)
			mustBest(t, bad, l, api.Codec{})
		}
	}
	for _, c := range []api.Codec{{Kind: api.Plain}, unfit, noCodec} {
		mustNotEncode(t, intCol, []api.Value{one(-5), {}}, c, api.ErrValue)
		mustNotEncode(t, textCol, numbers(1), c, api.ErrValue)
		if many != nil {
			mustNotEncode(t, intCol, many, c, api.ErrLarge)
			mustNotEncode(t, textNull, many, c, api.ErrLarge)
		}
	}
	mustNotEncode(t, intCol, numbers(-5), noCodec, api.ErrCodec)
	mustNotEncode(t, intCol, numbers(-5), unfit, api.ErrUnfit)
}

// TestP12_1NoName: the column's Name is not looked at.
func TestP12_1NoName(t *testing.T) {
	for _, name := range []string{"", "a", "no name, for it is by far too long " + strings.Repeat("x", 99), "\x00\xff"} {
		mustEncode(t, api.Column{Name: name, Type: api.Int}, numbers(5), api.Codec{Kind: api.Runs}, []byte{3, 0, 0, 1, 1, 10})
		c := mustOpen(t, api.Column{Name: name, Type: api.Int}, 1, []byte{3, 0, 0, 1, 1, 10})
		if c.Column().Name != name {
			t.Errorf("the column's name is %q, not %q", c.Column().Name, name)
		}
	}
}

// TestP12_1NotOfColumn: each value that is not of the column, at every place.
func TestP12_1NotOfColumn(t *testing.T) {
	negative := math.Copysign(0, -1)
	wrong := []api.Value{{Kind: api.Real}, {Kind: api.Real, Real: 1.5}, {Kind: -1}, {Kind: 4}, {Kind: math.MaxInt}, {Int: 1}, {Text: "x"}, {Real: 1}, {Real: negative},
		{Kind: api.Int, Text: "x"}, {Kind: api.Int, Real: negative}, {Kind: api.Int, Real: math.NaN()}, {Kind: api.Text, Int: 1}, {Kind: api.Text, Real: negative}, word(strings.Repeat("x", api.MaxText+1))}
	for _, col := range goodColumns() {
		good := one(3)
		all := append(slices.Clone(wrong), word("x"))
		if col.Type == api.Text {
			good, all = word("y"), append(slices.Clone(wrong), one(3))
		}
		if !col.Null {
			all = append(all, api.Value{})
		}
		for _, v := range all {
			for i := range 4 {
				l := slices.Insert([]api.Value{good, good, good}, i, v)
				for kind := 1; kind <= 5; kind++ {
					mustNotEncode(t, col, l, api.Codec{Kind: kind}, api.ErrValue)
				}
				mustFit(t, col, l, nil)
				mustBest(t, col, l, api.Codec{})
			}
		}
	}
}

// different are n values that differ, and each of the first more of them again.
func different(col api.Column, n, more int) []api.Value {
	l := make([]api.Value, n+more)
	for i := range l {
		k := (i % n * 7919) % n
		if l[i] = one(int64(k) - 5); col.Type == api.Text {
			l[i] = word(strconv.Itoa(k))
		}
	}
	return l
}

// TestP12_1MaxDict: as many different values as a dictionary has, and one more. Nulls are none of them.
func TestP12_1MaxDict(t *testing.T) {
	for _, col := range []api.Column{intNull, textCol} {
		most, above := different(col, api.MaxDict, 99), different(col, api.MaxDict+1, 99)
		if col.Null {
			most[77], above = api.Value{}, append(above, nulls(3)...)
			most = append(append(most, nulls(9)...), different(col, api.MaxDict, 0)[77])
		}
		encodeAsPlain(t, col, most, api.Codec{Kind: api.Dict})
		mustNotEncode(t, col, above, api.Codec{Kind: api.Dict}, api.ErrUnfit)
		if !slices.Contains(chunk.Fit(col, most), api.Codec{Kind: api.Dict}) || slices.Contains(chunk.Fit(col, above), api.Codec{Kind: api.Dict}) {
			t.Errorf("Fit of %v", col)
		}
		encodeAsPlain(t, col, above, api.Codec{Kind: api.Plain})
		encodeAsPlain(t, col, above, api.Codec{Kind: api.Runs})
	}
}

// TestP12_1TooManyBytes: texts that have 2^32 bytes together or more, though each of them may be.
func TestP12_1TooManyBytes(t *testing.T) {
	long := word(strings.Repeat("x", api.MaxText))
	l := append(slices.Repeat([]api.Value{long}, 65538), api.Value{})
	mustNotEncode(t, textNull, l, api.Codec{Kind: api.Plain}, api.ErrLarge)
	encodeAsPlain(t, textNull, l, api.Codec{Kind: api.Dict})
	encodeAsPlain(t, textNull, l, api.Codec{Kind: api.Runs})
	mustFit(t, textNull, l, []api.Codec{{Kind: api.Dict}, {Kind: api.Runs}})
	mustBest(t, textNull, l, api.Codec{Kind: api.Runs})
	mustNotEncode(t, textCol, l, api.Codec{Kind: api.Plain}, api.ErrValue)
	mustNotEncode(t, textNull, l, api.Codec{Kind: api.Plain, Width: 1}, api.ErrCodec)
}

// TestP12_2Fit: Fit and Best against a trial of every codec.
func TestP12_2Fit(t *testing.T) {
	for i, col := range goodColumns() {
		for _, l := range manyLists(col, 100+uint64(i)) {
			mustFit(t, col, l, plainFit(col, l))
			mustBest(t, col, l, plainBest(col, l))
		}
	}
}

// TestP12_2Least: of Frame and Packed the least width alone is told.
func TestP12_2Least(t *testing.T) {
	for width := range 64 {
		top := int64(1)<<width - 1 // fits the width, and no lesser one; of 63 bits it wraps round to the greatest
		want := []api.Codec{{Kind: 1}, {Kind: 2}, {Kind: 3}, {Kind: 4, Width: width}, {Kind: 5, Width: width}}
		mustFit(t, intCol, numbers(0, top), want)
		mustFit(t, intNull, []api.Value{{}, one(top), {}, one(0)}, want)
		want = []api.Codec{{Kind: 1}, {Kind: 2}, {Kind: 3}, {Kind: 4, Width: width}}
		mustFit(t, intCol, numbers(top-5-top, top-5), want) // from -5 on
		if top > 0 {
			mustFit(t, intCol, numbers(-top, 0), want)
		}
	}
	mustFit(t, intCol, numbers(math.MinInt64, math.MaxInt64), []api.Codec{{Kind: 1}, {Kind: 2}, {Kind: 3}, {Kind: 4, Width: 64}})
}

// TestP12_2AsShort: of codecs whose forms are as long the one of the least Kind is the best.
func TestP12_2AsShort(t *testing.T) {
	n := api.Value{}
	for _, x := range []struct {
		col  api.Column
		l    []api.Value
		want int
		as   []int // the Kinds of all that are as short
	}{
		{intCol, nil, api.Plain, []int{1, 5}},
		{intNull, []api.Value{n, n}, api.Plain, []int{1, 5}},
		{textCol, nil, api.Runs, []int{3}},
		{textNull, []api.Value{n, n, n}, api.Runs, []int{3}},
		{intCol, numbers(1 << 60), api.Plain, []int{1, 4, 5}},
		{intCol, numbers(-1<<60, -1<<60), api.Frame, []int{4}},
		{intCol, numbers(math.MinInt64), api.Plain, []int{1, 4}},
		{intCol, numbers(1<<50, 1<<50), api.Frame, []int{4}},
		{intCol, numbers(-4, -4, -4), api.Runs, []int{3}},
		{intCol, numbers(0, 0), api.Packed, []int{5}},
	} {
		mustBest(t, x.col, x.l, api.Codec{Kind: x.want, Width: chunk.Best(x.col, x.l).Width})
		best, _ := chunk.Encode(x.col, x.l, chunk.Best(x.col, x.l))
		var as []int
		for _, c := range chunk.Fit(x.col, x.l) {
			if b, _ := chunk.Encode(x.col, x.l, c); len(b) == len(best) {
				as = append(as, c.Kind)
			}
		}
		if !slices.Equal(as, x.as) {
			t.Errorf("%v, %v: as short are %v, want %v", x.col, x.l, as, x.as)
		}
	}
}

// TestP12_2EachIsBest: there are values of which each codec is the best one.
func TestP12_2EachIsBest(t *testing.T) {
	far, near := numbers(1<<60, -1<<60, 3<<60), numbers(1<<40, 1<<40+3, 1<<40+1)
	mustBest(t, intCol, far, api.Codec{Kind: api.Plain})
	mustBest(t, intCol, slices.Repeat(far, 9), api.Codec{Kind: api.Dict})
	mustBest(t, intCol, slices.Repeat(numbers(-1), 1000), api.Codec{Kind: api.Runs})
	mustBest(t, intCol, near, api.Codec{Kind: api.Frame, Width: 2})
	mustBest(t, intCol, numbers(1, 2, 3), api.Codec{Kind: api.Packed, Width: 2})
	mustBest(t, textCol, words("abc", "abcdefgh"), api.Codec{Kind: api.Runs})
	mustBest(t, textCol, slices.Repeat(words("abcde", "fghij"), 99), api.Codec{Kind: api.Dict})
}

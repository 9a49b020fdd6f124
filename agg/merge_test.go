package agg_test

import (
	"math"
	"math/big"
	"slices"
	"strings"
	"testing"

	"colonnade/agg"
	"colonnade/api"
	"colonnade/wide"
)

// absent are values that are not there: Null, and such as may not be.
func absent() []api.Value {
	minusZero := math.Copysign(0, -1)
	return []api.Value{
		null, {Int: 7}, {Int: -7}, {Real: minusZero}, {Real: 1}, {Text: "a"},
		{Kind: api.Int, Int: least, Text: "a"}, {Kind: api.Int, Int: greatest, Real: minusZero}, {Kind: api.Int, Real: 2},
		{Kind: api.Text, Int: 1}, {Kind: api.Text, Text: "zz", Real: minusZero}, {Kind: api.Text, Text: strings.Repeat("z", api.MaxText+1)},
		real(math.Inf(1)), real(math.Inf(-1)), real(math.NaN()), real(minusZero), {Kind: api.Real, Int: 3, Real: 1}, {Kind: api.Real, Text: "b"},
		{Kind: 4}, {Kind: -1, Int: 5}, {Kind: greatest, Text: "x"}, {Kind: least, Int: least},
	}
}

// present are values that are there, of every Kind, near to one another and far.
func present() []api.Value {
	out := nums(0, 1, -1, 2, 5, least, least+1, greatest, greatest-1, 1<<53, 1<<53+1, -1<<53-1)
	out = append(out, words("", "a", "aa", "b", "\x00", "\xff", "5", strings.Repeat("z", api.MaxText))...)
	for _, f := range []float64{0, 1, -1, 1.5, 5, 1 << 53, 1 << 63, -1 << 63, math.MaxFloat64, -math.MaxFloat64, math.SmallestNonzeroFloat64} {
		out = append(out, real(f))
	}
	return out
}

// outermost is a plain reading of the first of values in their order (side -1), or the last (side 1), of those that are there.
func outermost(l []api.Value, side int) api.Value {
	var out api.Value
	for i, v := range l {
		if !isThere(v) {
			continue
		}
		best := true
		for k, w := range l {
			if isThere(w) && (order(w, v) == side || order(w, v) == 0 && k < i) {
				best = false
			}
		}
		if best {
			out = v
		}
	}
	return out
}

// merged is a plain reading of Merge.
func merged(l []agg.State) agg.State {
	var s agg.State
	var firsts, lasts []api.Value
	sum := new(big.Int)
	for _, x := range l {
		s.Rows += x.Rows
		s.Count += x.Count
		sum.Add(sum, bigOf(x.Sum))
		firsts, lasts = append(firsts, x.Min), append(lasts, x.Max)
	}
	// Modulo 2^128, to the bounds of a wide.
	half := new(big.Int).Lsh(big.NewInt(1), 127)
	sum.Add(sum, half).Mod(sum, new(big.Int).Lsh(half, 1)).Sub(sum, half)
	s.Sum, s.Min, s.Max = wideOf(sum), outermost(firsts, -1), outermost(lasts, 1)
	return s
}

func mustMerge(t *testing.T, l ...agg.State) {
	t.Helper()
	if got, want := agg.Merge(l...), merged(l); got != want {
		t.Fatalf("Merge of %s = %s; want %s", brief(l), brief(got), brief(want))
	}
}

// TestP22_3None: of no states, and of those of no rows, it is the state of no rows.
func TestP22_3None(t *testing.T) {
	for n := range 5 {
		if got := agg.Merge(make([]agg.State, n)...); got != agg.None() {
			t.Errorf("Merge of %d states of no rows = %v", n, got)
		}
	}
	if got := agg.Merge([]agg.State(nil)...); got != agg.None() {
		t.Errorf("Merge of nil = %v", got)
	}
}

// TestP22_3Each: Rows, Count, Sum, Min and Max are each put together by themselves, whatever the others are.
func TestP22_3Each(t *testing.T) {
	for _, x := range []struct{ l, want agg.State }{
		{agg.State{Rows: 3}, agg.State{Rows: 6}},
		{agg.State{Count: -2}, agg.State{Count: -4}},
		{agg.State{Sum: wide.Of(-5)}, agg.State{Sum: wide.Of(-10)}},
		{agg.State{Min: num(5)}, agg.State{Min: num(5)}},
		{agg.State{Max: num(5)}, agg.State{Max: num(5)}},
		{agg.State{Rows: 1, Count: 2, Sum: wide.Of(3), Min: word("a"), Max: num(4)}, agg.State{Rows: 2, Count: 4, Sum: wide.Of(6), Min: word("a"), Max: num(4)}},
	} {
		if got := agg.Merge(x.l, x.l); got != x.want {
			t.Errorf("Merge of %v twice = %v; want %v", x.l, got, x.want)
		}
		mustMerge(t, x.l, agg.None(), x.l, x.l)
	}
}

// TestP22_3Around: Rows and Counts go round as Go's ints do, Sums as Plus does.
func TestP22_3Around(t *testing.T) {
	top := agg.State{Rows: math.MaxInt, Count: math.MinInt, Sum: wide.Wide{Hi: math.MaxInt64, Lo: math.MaxUint64}}
	one := agg.State{Rows: 1, Count: -1, Sum: wide.Of(1)}
	want := agg.State{Rows: math.MinInt, Count: math.MaxInt, Sum: wide.Wide{Hi: math.MinInt64}}
	for _, l := range [][]agg.State{{top, one}, {one, top}, {agg.None(), top, agg.None(), one}} {
		if got := agg.Merge(l...); got != want {
			t.Errorf("Merge(%v) = %v; want %v", l, got, want)
		}
		mustMerge(t, l...)
	}
	carry := agg.State{Sum: wide.Wide{Lo: math.MaxUint64}}
	if got := agg.Merge(carry, carry); got.Sum != (wide.Wide{Hi: 1, Lo: math.MaxUint64 - 1}) {
		t.Errorf("Merge of two Sums that carry = %v", got)
	}
}

// TestP22_3Ends: of every two values, there or not, the first is the Min and the last the Max.
func TestP22_3Ends(t *testing.T) {
	all := slices.Concat(present(), absent())
	for _, a := range all {
		mustMerge(t, agg.State{Min: a, Max: a})
		for _, b := range all {
			mustMerge(t, agg.State{Min: a, Max: b}, agg.State{Min: b, Max: a})
			mustMerge(t, agg.State{Min: a}, agg.State{Max: a}, agg.State{Min: b}, agg.State{Max: b})
		}
	}
}

// TestP22_3NotThere: a Min or a Max that is not there is none, however few there are beside it.
func TestP22_3NotThere(t *testing.T) {
	for _, v := range absent() {
		s := agg.State{Rows: 1, Count: 1, Min: v, Max: v}
		if got := agg.Merge(s); got != (agg.State{Rows: 1, Count: 1}) {
			t.Errorf("Merge of %s alone = %s", brief(s), brief(got))
		}
		for _, w := range []api.Value{num(0), num(least), num(greatest), word(""), real(0)} {
			o := agg.State{Min: w, Max: w}
			want := agg.State{Rows: 1, Count: 1, Min: w, Max: w}
			if a, b := agg.Merge(s, o), agg.Merge(o, s); a != want || b != want {
				t.Errorf("Merge of %s and %s = %s, %s", brief(s), brief(o), brief(a), brief(b))
			}
		}
	}
}

// TestP22_3ByChance: many states by chance, of any sort.
func TestP22_3ByChance(t *testing.T) {
	r := byChance(3)
	all := slices.Concat(present(), present(), absent())
	for range 5000 {
		l := make([]agg.State, r.IntN(9))
		for i := range l {
			l[i] = agg.State{Rows: int(r.Uint64()) >> r.IntN(64), Count: int(r.Uint64()) >> r.IntN(64), Sum: wide.Wide{Hi: int64(r.Uint64()) >> r.IntN(64), Lo: r.Uint64()}, Min: oneOf(r, all), Max: oneOf(r, all)}
		}
		mustMerge(t, l...)
	}
}

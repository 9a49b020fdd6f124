package agg_test

import (
	"math"
	"math/big"
	"slices"
	"testing"

	"colonnade/agg"
	"colonnade/api"
	"colonnade/wide"
)

// same is whether two values are the same in each field, by the bits of their Reals.
func same(a, b api.Value) bool {
	return a.Kind == b.Kind && a.Int == b.Int && a.Text == b.Text && math.Float64bits(a.Real) == math.Float64bits(b.Real)
}

// answered is a plain reading of Answer.
func answered(kind int, s agg.State) (api.Value, api.Errno) {
	switch kind {
	case 2:
		return num(int64(s.Rows)), api.OK
	case 3:
		return num(int64(s.Count)), api.OK
	case 5:
		return s.Min, api.OK
	case 6:
		return s.Max, api.OK
	case 4, 7:
	default:
		return null, api.ErrArg
	}
	if s.Count < 1 {
		return null, api.OK
	}
	sum := bigOf(s.Sum)
	if kind == 7 {
		mean, _ := new(big.Rat).SetFrac(sum, big.NewInt(int64(s.Count))).Float64()
		return real(mean), api.OK
	}
	if !sum.IsInt64() {
		return null, api.ErrOverflow
	}
	return num(sum.Int64()), api.OK
}

func mustAnswer(t *testing.T, kind int, s agg.State) {
	t.Helper()
	want, wantE := answered(kind, s)
	if got, e := agg.Answer(kind, s); !same(got, want) || e != wantE {
		t.Fatalf("Answer(%d, %s) = %s, %d; want %s, %d", kind, brief(s), brief(got), e, brief(want), wantE)
	}
}

// ints are numbers about which something turns.
func ints() []int {
	return []int{0, 1, -1, 2, 3, 7, -3, 10, 1 << 24, 1 << 31, 1 << 53, 1<<53 + 1, math.MaxInt, math.MaxInt - 1, math.MinInt, math.MinInt + 1}
}

// sums are wides about which something turns: both ends of int64 and of wides, and what a float64 does not hold.
func sums() []wide.Wide {
	var out []wide.Wide
	for _, i := range []int64{0, 1, -1, 2, 17, 1<<53 + 1, -1<<53 - 1, greatest, greatest - 1, least, least + 1} {
		out = append(out, wide.Of(i))
	}
	for _, w := range []wide.Wide{wide.Of(greatest), wide.Of(least), {Hi: 1}, {Hi: -1}, {Hi: 1 << 24}, {Hi: math.MaxInt64, Lo: math.MaxUint64}, {Hi: math.MinInt64}} {
		out = append(out, w, w.Plus(wide.Of(1)), w.Minus(wide.Of(1)))
	}
	return out
}

// TestP22_4Kinds: no other kind is answered, whatever the state.
func TestP22_4Kinds(t *testing.T) {
	full := agg.State{Rows: 4, Count: 3, Sum: wide.Of(17), Min: num(5), Max: num(7)}
	over := agg.State{Rows: 4, Count: 3, Sum: wide.Wide{Hi: 5}, Min: num(5), Max: num(7)}
	for _, s := range []agg.State{full, over, agg.None()} {
		for kind := -300; kind <= 300; kind++ {
			mustAnswer(t, kind, s)
			if _, e := agg.Answer(kind, s); (e == api.ErrArg) != (kind < api.ItemRows || kind > api.ItemMean) {
				t.Errorf("Answer(%d, %v): %d", kind, s, e)
			}
		}
		for _, kind := range []int{math.MinInt, math.MaxInt, math.MinInt + api.ItemRows, 1<<32 + api.ItemRows} {
			if v, e := agg.Answer(kind, s); v != null || e != api.ErrArg {
				t.Errorf("Answer(%d, %v) = %v, %d", kind, s, v, e)
			}
		}
	}
}

// TestP22_4Numbers: Rows and Count are told as they are, also where they are below 0.
func TestP22_4Numbers(t *testing.T) {
	for _, n := range ints() {
		for _, m := range ints() {
			s := agg.State{Rows: n, Count: m, Sum: wide.Wide{Hi: 9}, Min: word("a"), Max: word("b")}
			if v, e := agg.Answer(api.ItemRows, s); v != num(int64(n)) || e != api.OK {
				t.Errorf("Rows of %v: %v, %d", s, v, e)
			}
			if v, e := agg.Answer(api.ItemCount, s); v != num(int64(m)) || e != api.OK {
				t.Errorf("Count of %v: %v, %d", s, v, e)
			}
		}
	}
}

// TestP22_4Sum: Null of no values, even where the Sum is none of an Int; ErrOverflow just behind both ends.
func TestP22_4Sum(t *testing.T) {
	for _, w := range sums() {
		for _, n := range ints() {
			mustAnswer(t, api.ItemSum, agg.State{Rows: 9, Count: n, Sum: w, Min: num(1), Max: num(2)})
		}
	}
	for _, x := range []struct {
		sum  wide.Wide
		want api.Value
		e    api.Errno
	}{
		{wide.Of(greatest), num(greatest), api.OK}, {wide.Of(least), num(least), api.OK},
		{wide.Of(greatest).Plus(wide.Of(1)), null, api.ErrOverflow}, {wide.Of(least).Minus(wide.Of(1)), null, api.ErrOverflow},
	} {
		if v, e := agg.Answer(api.ItemSum, agg.State{Count: 1, Sum: x.sum}); v != x.want || e != x.e {
			t.Errorf("the sum %v: %v, %d", x.sum, v, e)
		}
	}
}

// TestP22_4Mean: Null of no values; else a Real, of which a zero has no sign, also where the Sum is none of an Int.
func TestP22_4Mean(t *testing.T) {
	for _, w := range sums() {
		for _, n := range ints() {
			s := agg.State{Rows: 9, Count: n, Sum: w, Min: num(1), Max: num(2)}
			mustAnswer(t, api.ItemMean, s)
			if v, _ := agg.Answer(api.ItemMean, s); (v.Kind == api.Real) != (n > 0) || n > 0 && !isThere(v) {
				t.Errorf("the mean of %v: %v", s, v)
			}
		}
	}
}

// TestP22_4Ends: Min and Max are told just as they stand in the state, whatever else it has.
func TestP22_4Ends(t *testing.T) {
	all := slices.Concat(present(), absent())
	for i, v := range all {
		w := all[(i*5+3)%len(all)]
		for _, n := range []int{-1, 0, 3} {
			s := agg.State{Rows: n, Count: n, Min: v, Max: w}
			if got, e := agg.Answer(api.ItemMin, s); !same(got, v) || e != api.OK {
				t.Errorf("the Min of %s: %s, %d", brief(s), brief(got), e)
			}
			if got, e := agg.Answer(api.ItemMax, s); !same(got, w) || e != api.OK {
				t.Errorf("the Max of %s: %s, %d", brief(s), brief(got), e)
			}
		}
	}
}

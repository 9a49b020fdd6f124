package runs_test

import (
	"math"
	"slices"
	"strings"
	"testing"

	"colonnade/api"
	"colonnade/runs"
)

func mustFold[T comparable](t *testing.T, l []T, want ...runs.Run[T]) {
	t.Helper()
	if got := runs.Fold(l); !slices.Equal(got, want) {
		t.Errorf("Fold(%s) = %s, want %s", brief(l), brief(got), brief(want))
	}
}

func mustUnfold[T comparable](t *testing.T, l []runs.Run[T], want []T) {
	t.Helper()
	if got, e := runs.Unfold(l); e != api.OK || !slices.Equal(got, want) {
		t.Errorf("Unfold(%s) = %s, %d; want %s", brief(l), brief(got), e, brief(want))
	}
}

func mustNotUnfold[T comparable](t *testing.T, l []runs.Run[T], want api.Errno) {
	t.Helper()
	if got, e := runs.Unfold(l); e != want || len(got) != 0 {
		t.Errorf("Unfold(%s): %d values, %d; want %d", brief(l), len(got), e, want)
	}
}

func mustAt[T comparable](t *testing.T, l []runs.Run[T], i int, want T, is bool) {
	t.Helper()
	if got, ok := runs.At(l, i); got != want || ok != is {
		t.Errorf("At(%s, %d) = %v, %t; want %v, %t", brief(l), i, got, ok, want, is)
	}
}

func TestP10_1Fold(t *testing.T) {
	mustFold[int64](t, nil)
	mustFold(t, []int64{})
	mustFold(t, []int64{0}, intRun{0, 1})
	mustFold(t, []int64{0, 0}, intRun{0, 2})
	mustFold(t, []int64{0, 1}, intRun{0, 1}, intRun{1, 1})
	mustFold(t, []int64{1, 0, 0, 1}, intRun{1, 1}, intRun{0, 2}, intRun{1, 1})
	mustFold(t, slices.Repeat([]int64{-4}, 1000), intRun{-4, 1000})
	mustFold(t, []int64{math.MinInt64, math.MinInt64, math.MaxInt64, math.MinInt64}, intRun{math.MinInt64, 2}, intRun{math.MaxInt64, 1}, intRun{math.MinInt64, 1})
	mustFold(t, []int64{0, math.MinInt64, 1, 1 << 32, 1<<32 + 1}, intRun{0, 1}, intRun{math.MinInt64, 1}, intRun{1, 1}, intRun{1 << 32, 1}, intRun{1<<32 + 1, 1})
	r := byChance(1)
	for n := range 300 {
		ints, texts := someInts(r, n, r.IntN(4)), someTexts(r, n, r.IntN(4))
		mustFold(t, ints, plainFold(ints)...)
		mustFold(t, texts, plainFold(texts)...)
	}
}

func TestP10_1NeighboursUnlike(t *testing.T) {
	var l []int64
	var want []intRun
	for i := range int64(1000) {
		l, want = append(l, i%3), append(want, intRun{i % 3, 1})
	}
	mustFold(t, l, want...)
}

func TestP10_1Texts(t *testing.T) {
	long := strings.Repeat("x", api.MaxText)
	mustFold(t, []string{""}, textRun{"", 1})
	mustFold(t, []string{"", "", "a", "", ""}, textRun{"", 2}, textRun{"a", 1}, textRun{"", 2})
	mustFold(t, []string{"a", "A", "a\x00", "a\x00", "a"}, textRun{"a", 1}, textRun{"A", 1}, textRun{"a\x00", 2}, textRun{"a", 1})
	mustFold(t, []string{long, long, long + "x", long + "x", long + "x", long}, textRun{long, 2}, textRun{long + "x", 3}, textRun{long, 1})
	mustFold(t, []string{long, long[1:] + "y", long}, textRun{long, 1}, textRun{long[1:] + "y", 1}, textRun{long, 1})
}

// TestP10_1Kinds: values of any kind that can be compared.
func TestP10_1Kinds(t *testing.T) {
	type point struct {
		x, y int8
		name string
	}
	mustFold(t, []point{{1, 2, "a"}, {1, 2, "a"}, {1, 2, "b"}}, runs.Run[point]{Value: point{1, 2, "a"}, N: 2}, runs.Run[point]{Value: point{1, 2, "b"}, N: 1})
	mustFold(t, [][2]uint8{{1, 2}, {1, 2}, {2, 1}}, runs.Run[[2]uint8]{Value: [2]uint8{1, 2}, N: 2}, runs.Run[[2]uint8]{Value: [2]uint8{2, 1}, N: 1})
	mustFold(t, []bool{true, true, false}, runs.Run[bool]{Value: true, N: 2}, runs.Run[bool]{N: 1})
	mustFold(t, make([]struct{}, 5), runs.Run[struct{}]{N: 5})
	a, b := new(int), new(int)
	mustFold(t, []*int{a, a, b, nil, nil}, runs.Run[*int]{Value: a, N: 2}, runs.Run[*int]{Value: b, N: 1}, runs.Run[*int]{N: 2})
	mustFold(t, []any{1, 1, "1", nil, nil, int8(1)}, runs.Run[any]{Value: 1, N: 2}, runs.Run[any]{Value: "1", N: 1}, runs.Run[any]{N: 2}, runs.Run[any]{Value: int8(1), N: 1})
}

// lengths are the N of some runs.
func lengths[T comparable](l []runs.Run[T]) []int {
	var out []int
	for _, r := range l {
		out = append(out, r.N)
	}
	return out
}

// TestP10_1NotAlikeToThemselves: what == does not say is alike makes a run each, also where it stands within a value.
func TestP10_1NotAlikeToThemselves(t *testing.T) {
	nan := math.NaN()
	for _, x := range []struct {
		l    []float64
		want []int
	}{
		{[]float64{nan}, []int{1}},
		{[]float64{nan, nan, nan}, []int{1, 1, 1}},
		{[]float64{1, 1, nan, 1, 1}, []int{2, 1, 2}},
		{[]float64{0, math.Copysign(0, -1), 0, nan, nan}, []int{3, 1, 1}},
		{[]float64{math.Inf(1), math.Inf(1), math.Inf(-1)}, []int{2, 1}},
	} {
		got := runs.Fold(x.l)
		if !slices.Equal(lengths(got), x.want) {
			t.Fatalf("Fold(%v) = %v", x.l, got)
		}
		i := 0
		for _, r := range got {
			if r.Value != x.l[i] && (r.Value == r.Value || x.l[i] == x.l[i]) {
				t.Errorf("Fold(%v) = %v", x.l, got)
			}
			i += r.N
		}
	}
	if got := runs.Fold([]complex128{complex(nan, 0), complex(nan, 0), 1, 1}); !slices.Equal(lengths(got), []int{1, 1, 2}) {
		t.Errorf("Fold of complex numbers: %v", got)
	}
	if got := runs.Fold([][1]float64{{nan}, {nan}, {2}, {2}}); !slices.Equal(lengths(got), []int{1, 1, 2}) {
		t.Errorf("Fold of arrays: %v", got)
	}
	if got := runs.Fold([]any{nan, nan, 2.0, 2.0}); !slices.Equal(lengths(got), []int{1, 1, 2}) {
		t.Errorf("Fold of an interface's values: %v", got)
	}
}

// TestW0CannotBeCompared: of values at which == panics it does not say that they are alike, and Fold does not panic.
func TestW0CannotBeCompared(t *testing.T) {
	type within struct {
		n int
		v any
	}
	list, table, call := []int{1}, map[int]int{}, func() {}
	if got := runs.Fold([]any{3, 3, list, list, list, 3, 3, table, table, call, call, nil, nil}); !slices.Equal(lengths(got), []int{2, 1, 1, 1, 2, 1, 1, 1, 1, 2}) {
		t.Errorf("Fold: %v", lengths(got))
	}
	if got := runs.Fold([]within{{1, 2}, {1, 2}, {1, list}, {1, list}, {2, list}, {2, 5}, {2, 5}}); !slices.Equal(lengths(got), []int{2, 1, 1, 1, 2}) {
		t.Errorf("Fold of structs: %v", lengths(got))
	}
	got, e := runs.Unfold([]runs.Run[any]{{Value: list, N: 2}, {Value: list, N: 1}})
	if e != api.OK || len(got) != 3 {
		t.Errorf("Unfold: %v, %d", got, e)
	}
	if v, is := runs.At([]runs.Run[any]{{Value: list, N: 2}}, 1); !is || len(v.([]int)) != 1 {
		t.Errorf("At: %v, %t", v, is)
	}
}

func TestP10_2Unfold(t *testing.T) {
	mustUnfold[int64](t, nil, nil)
	mustUnfold(t, []intRun{}, nil)
	mustUnfold(t, []intRun{{math.MinInt64, 1}}, []int64{math.MinInt64})
	mustUnfold(t, []intRun{{math.MaxInt64, 1}, {0, 3}, {-1, 2}}, []int64{math.MaxInt64, 0, 0, 0, -1, -1})
	mustUnfold(t, []textRun{{"", 2}, {"a", 1}, {"", 1}}, []string{"", "", "a", ""})
	mustUnfold(t, []textRun{{strings.Repeat("x", api.MaxText+1), 2}}, slices.Repeat([]string{strings.Repeat("x", api.MaxText+1)}, 2))
	r := byChance(2)
	for range 2000 {
		l := make([]intRun, r.IntN(9))
		for i := range l {
			l[i] = intRun{r.Int64N(3), 1 + r.IntN(5)}
		}
		want, e := plainUnfold(l)
		if e != api.OK {
			t.Fatal(e)
		}
		mustUnfold(t, l, want)
	}
	if got, e := runs.Unfold([]runs.Run[float64]{{Value: math.NaN(), N: 2}, {Value: 1, N: 1}}); e != api.OK || len(got) != 3 || got[0] == got[0] || got[1] == got[1] || got[2] != 1 {
		t.Errorf("Unfold of no number twice: %v, %d", got, e)
	}
}

// TestP10_2NeighboursAlike: they may be alike, and each counts.
func TestP10_2NeighboursAlike(t *testing.T) {
	mustUnfold(t, []intRun{{7, 1}, {7, 1}, {7, 2}, {8, 1}, {8, 1}}, []int64{7, 7, 7, 7, 8, 8})
	mustUnfold(t, []textRun{{"", 1}, {"", 2}}, []string{"", "", ""})
}

// TestP10_2Errors: every list of up to three N at the edges.
func TestP10_2Errors(t *testing.T) {
	edges := []int{math.MinInt, -1 << 32, -1, 0, 1, 2, 16777214, 16777215, 16777216, 16777217, 1 << 32, 1<<32 + 1, 1 << 62, math.MaxInt}
	for _, a := range edges {
		errorsAsPlain(t, intRun{7, a})
		for _, b := range edges {
			errorsAsPlain(t, intRun{7, a}, intRun{7, b})
			for _, c := range edges {
				errorsAsPlain(t, intRun{1, a}, intRun{2, b}, intRun{3, c})
			}
		}
	}
}

// errorsAsPlain holds the error of Unfold against the plain one, unless a great many values are told.
func errorsAsPlain(t *testing.T, l ...intRun) {
	t.Helper()
	if s := plainSum(l); s.IsInt64() && s.Int64() > 1000 && s.Int64() <= api.MaxRows && !slices.ContainsFunc(l, func(r intRun) bool { return r.N < 1 }) {
		return
	}
	want, e := plainUnfold(l)
	if got, f := runs.Unfold(l); f != e || !slices.Equal(got, want) {
		t.Errorf("Unfold(%v) = %v, %d; want %v, %d", l, got, f, want, e)
	}
}

// TestP10_2SumsBeyondAnInt: sums that would come round to a number that may be, or below 0, are still too great; an N below 1 anywhere is told ahead of that.
func TestP10_2SumsBeyondAnInt(t *testing.T) {
	four := []intRun{{1, 1 << 62}, {2, 1 << 62}, {3, 1 << 62}, {4, 1 << 62}}
	mustNotUnfold(t, four, api.ErrLarge)
	mustNotUnfold(t, append(four, intRun{5, 3}), api.ErrLarge)
	mustNotUnfold(t, []intRun{{1, math.MaxInt}, {1, math.MaxInt}, {1, 4}}, api.ErrLarge)
	mustNotUnfold(t, []intRun{{1, math.MaxInt}, {1, 1}}, api.ErrLarge)
	mustNotUnfold(t, append(four, intRun{5, 0}), api.ErrRuns)
	mustNotUnfold(t, append([]intRun{{5, math.MinInt}}, four...), api.ErrRuns)
	mustNotUnfold(t, []intRun{{1, math.MaxInt}, {2, 0}, {1, 1}}, api.ErrRuns)
	mustNotUnfold(t, []intRun{{1, 5}, {2, -5}}, api.ErrRuns)
	many := slices.Repeat([]intRun{{1, math.MaxInt}}, 1<<12)
	mustNotUnfold(t, many, api.ErrLarge)
	many[len(many)-1].N = 0
	mustNotUnfold(t, many, api.ErrRuns)
}

func TestP10_2MaxRows(t *testing.T) {
	if testing.Short() {
		t.Skip("has MaxRows values")
	}
	got, e := runs.Unfold([]intRun{{7, api.MaxRows - 2}, {7, 1}, {-8, 1}})
	if e != api.OK || len(got) != api.MaxRows || got[0] != 7 || got[api.MaxRows-2] != 7 || got[api.MaxRows-1] != -8 {
		t.Errorf("MaxRows values: %d, %d", len(got), e)
	}
	if got, e := runs.Unfold([]textRun{{"a", api.MaxRows}}); e != api.OK || len(got) != api.MaxRows || got[api.MaxRows-1] != "a" {
		t.Errorf("MaxRows texts: %d, %d", len(got), e)
	}
	ones := slices.Repeat([]intRun{{7, 1}}, api.MaxRows)
	if got, e := runs.Unfold(ones); e != api.OK || len(got) != api.MaxRows {
		t.Errorf("MaxRows runs: %d, %d", len(got), e)
	}
	if got, e := runs.Unfold(append(ones, intRun{7, 1})); e != api.ErrLarge || len(got) != 0 {
		t.Errorf("one more: %d, %d", len(got), e)
	}
	mustNotUnfold(t, []intRun{{7, api.MaxRows + 1}}, api.ErrLarge)
	mustNotUnfold(t, []intRun{{7, api.MaxRows}, {7, 1}}, api.ErrLarge)
	mustNotUnfold(t, []intRun{{7, 1}, {8, api.MaxRows}}, api.ErrLarge)
}

func TestP10_3At(t *testing.T) {
	mustAt[int64](t, nil, 0, 0, false)
	mustAt[int64](t, nil, -1, 0, false)
	mustAt(t, []textRun{}, 0, "", false)
	mustAt(t, []textRun{{"a", 1}}, 0, "a", true)
	mustAt(t, []textRun{{"a", 1}}, 1, "", false)
	mustAt(t, []textRun{{"a", 1}}, -1, "", false)
	mustAt(t, []textRun{{"", 1}}, 0, "", true)
	mustAt(t, []intRun{{math.MinInt64, 2}, {math.MaxInt64, 3}}, 1, math.MinInt64, true)
	mustAt(t, []intRun{{math.MinInt64, 2}, {math.MaxInt64, 3}}, 2, math.MaxInt64, true)
	mustAt(t, []intRun{{math.MinInt64, 2}, {math.MaxInt64, 3}}, 4, math.MaxInt64, true)
	mustAt(t, []intRun{{math.MinInt64, 2}, {math.MaxInt64, 3}}, 5, 0, false)
	if v, is := runs.At([]runs.Run[float64]{{Value: 1, N: 1}, {Value: math.NaN(), N: 2}}, 2); !is || v == v {
		t.Errorf("At of no number: %v, %t", v, is)
	}
}

// TestP10_3EveryPlace: runs of every N near 1, neighbours alike among them, at every place and behind them.
func TestP10_3EveryPlace(t *testing.T) {
	r := byChance(3)
	for range 3000 {
		l := make([]intRun, r.IntN(7))
		for i := range l {
			l[i] = intRun{1 + r.Int64N(3), r.IntN(7) - 2}
		}
		for i := -3; i < 40; i++ {
			v, is := plainAt(l, i)
			mustAt(t, l, i, v, is)
		}
	}
}

// TestP10_3Edges: N and places at the ends of int.
func TestP10_3Edges(t *testing.T) {
	edges := []int{math.MinInt, math.MinInt + 1, -1 << 62, -1, 0, 1, 2, 16777216, 16777217, 1 << 32, 1 << 62, math.MaxInt - 1, math.MaxInt}
	for _, a := range edges {
		for _, b := range edges {
			for _, c := range edges {
				l := []intRun{{5, a}, {6, b}, {7, c}}
				for _, i := range edges {
					v, is := plainAt(l, i)
					mustAt(t, l, i, v, is)
				}
			}
		}
	}
	l := []intRun{{5, 1 << 62}, {6, 1<<62 - 1}, {7, 1 << 62}, {8, math.MaxInt}}
	mustAt(t, l, 1<<62-1, 5, true)
	mustAt(t, l, 1<<62, 6, true)
	mustAt(t, l, math.MaxInt-1, 6, true)
	mustAt(t, l, math.MaxInt, 7, true)
	mustAt(t, []intRun{{5, math.MinInt}, {6, math.MinInt}, {7, 1}}, 0, 7, true)
	mustAt(t, []intRun{{5, math.MinInt}, {6, math.MinInt}, {7, 1}}, 1, 0, false)
}

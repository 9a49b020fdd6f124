package dict_test

import (
	"cmp"
	"math"
	"slices"
	"testing"

	"colonnade/dict"
)

// same says whether two lists have values that no comparison tells apart, nor the sign of a zero, nor the bits of what is no number.
func same[T cmp.Ordered](a, b []T) bool {
	return slices.EqualFunc(a, b, func(x, y T) bool {
		f, is := any(x).(float64)
		if g, too := any(y).(float64); is && too {
			return math.Float64bits(f) == math.Float64bits(g)
		}
		return cmp.Compare(x, y) == 0
	})
}

func mustBuild[T cmp.Ordered](t *testing.T, l, keys []T, codes ...uint32) {
	t.Helper()
	if k, c := dict.Build(l); !same(k, keys) || !slices.Equal(c, codes) {
		t.Errorf("Build(%v) = %v, %v; want %v, %v", l, k, c, keys, codes)
	}
}

func mustFloor[T cmp.Ordered](t *testing.T, keys []T, v T, want int) {
	t.Helper()
	if got := dict.Floor(keys, v); got != want {
		t.Errorf("Floor(%v, %v) = %d, want %d", keys, v, got, want)
	}
}

func mustFind[T cmp.Ordered](t *testing.T, keys []T, v T, want int, is bool) {
	t.Helper()
	if got, ok := dict.Find(keys, v); got != want || ok != is {
		t.Errorf("Find(%v, %v) = %d, %v; want %d, %v", keys, v, got, ok, want, is)
	}
}

// buildAsPlain holds Build of a list against the plain one.
func buildAsPlain[T cmp.Ordered](t *testing.T, l []T) {
	t.Helper()
	keys, codes := plainBuild(l)
	mustBuild(t, l, keys, codes...)
}

func TestP9_1Build(t *testing.T) {
	mustBuild(t, []int64(nil), nil)
	mustBuild(t, []string{}, nil)
	mustBuild(t, []int64{9}, []int64{9}, 0)
	mustBuild(t, []int64{9, 9, 9, 9}, []int64{9}, 0, 0, 0, 0)
	mustBuild(t, []int64{0, math.MaxInt64, -1, math.MinInt64, 1}, []int64{math.MinInt64, -1, 0, 1, math.MaxInt64}, 2, 4, 1, 0, 3)
	mustBuild(t, []uint64{math.MaxUint64, 0, 1 << 63}, []uint64{0, 1 << 63, math.MaxUint64}, 2, 0, 1)
	mustBuild(t, []string{"ab", "", "b", "a", "\xff", "a\x00", "", "B"}, []string{"", "B", "a", "a\x00", "ab", "b", "\xff"}, 4, 0, 5, 2, 6, 3, 0, 1)
	r := byChance(1)
	for n := range 150 {
		buildAsPlain(t, someInts(r, n, 1+r.IntN(2*n+1)))
		buildAsPlain(t, someTexts(r, n, 1+r.IntN(2*n+1)))
	}
}

// TestP9_1Falling: values that fall, and that rise.
func TestP9_1Falling(t *testing.T) {
	var up, down []int64
	for i := range int64(5000) {
		up, down = append(up, i*7-9000), append(down, 9000-i*7)
	}
	buildAsPlain(t, up)
	buildAsPlain(t, down)
}

func noNumber(bits uint64) float64 { return math.Float64frombits(0x7FF8000000000000 | bits) }

// TestP9_1Reals: the zeros are alike, and so is what is no number, whatever its bits; of each the first one is the key.
func TestP9_1Reals(t *testing.T) {
	zero, minus, inf := 0.0, math.Copysign(0, -1), math.Inf(1)
	mustBuild(t, []float64{minus, zero, minus}, []float64{minus}, 0, 0, 0)
	mustBuild(t, []float64{zero, minus, zero}, []float64{zero}, 0, 0, 0)
	mustBuild(t, []float64{noNumber(5), noNumber(6), noNumber(5)}, []float64{noNumber(5)}, 0, 0, 0)
	mustBuild(t, []float64{noNumber(6), 1, noNumber(5)}, []float64{noNumber(6), 1}, 0, 1, 0)
	mustBuild(t, []float64{1, -noNumber(1), -1}, []float64{-noNumber(1), -1, 1}, 2, 0, 1)
	mustBuild(t, []float64{inf, -inf, minus, noNumber(2), 1e-300, zero, -1e-300}, []float64{noNumber(2), -inf, -1e-300, minus, 1e-300, inf}, 5, 1, 3, 0, 4, 3, 2)
	from := []float64{zero, minus, noNumber(1), noNumber(2), inf, -inf, 1, -1, 0.5, math.SmallestNonzeroFloat64, math.MaxFloat64}
	r := byChance(2)
	for range 2000 {
		buildAsPlain(t, pick(r, r.IntN(20), from))
	}
	nan := float32(math.NaN())
	if k, c := dict.Build([]float32{2, nan, 2, nan}); len(k) != 2 || k[0] == k[0] || k[1] != 2 || !slices.Equal(c, []uint32{1, 0, 1, 0}) {
		t.Errorf("of float32: %v, %v", k, c)
	}
}

// TestP9_1ManyNoNumbers: as many of them as there may be, and still one key.
func TestP9_1ManyNoNumbers(t *testing.T) {
	l := make([]float64, 200000)
	for i := range l {
		l[i] = noNumber(uint64(i))
	}
	keys, codes := dict.Build(l)
	if len(keys) != 1 || math.Float64bits(keys[0]) != math.Float64bits(noNumber(0)) || !slices.Equal(codes, make([]uint32, len(l))) {
		t.Errorf("%d keys", len(keys))
	}
}

type (
	mark  uint8
	label string
)

// TestP9_1Kinds: ordered kinds of all sorts, and types over them.
func TestP9_1Kinds(t *testing.T) {
	mustBuild(t, []mark{200, 3, 200}, []mark{3, 200}, 1, 0, 1)
	mustBuild(t, []label{"z", "y"}, []label{"y", "z"}, 1, 0)
	mustBuild(t, []int8{127, -128}, []int8{-128, 127}, 1, 0)
	mustBuild(t, []uintptr{4, 2}, []uintptr{2, 4}, 1, 0)
	mustFloor(t, []mark{3, 200}, 100, 1)
	mustFind(t, []label{"y", "z"}, "z", 1, true)
}

// TestP9_1ManyKeys: a list itself may have more keys than a form.
func TestP9_1ManyKeys(t *testing.T) {
	const n = 100000
	l := make([]int64, n)
	for i := range l {
		l[i] = int64(i*77777) % n
	}
	keys, codes := dict.Build(l)
	if len(keys) != n || len(codes) != n {
		t.Fatalf("%d keys, %d codes", len(keys), len(codes))
	}
	for i, v := range l {
		if keys[i] != int64(i) || codes[i] != uint32(v) {
			t.Fatalf("key %d is %d, the code of %d is %d", i, keys[i], v, codes[i])
		}
	}
}

// askAsPlain holds Floor and Find of rising keys against the plain ones.
func askAsPlain[T cmp.Ordered](t *testing.T, keys []T, v T) {
	t.Helper()
	mustFloor(t, keys, v, plainFloor(keys, v))
	if i := plainPlace(keys, v); i >= 0 {
		mustFind(t, keys, v, i, true)
	} else {
		mustFind(t, keys, v, 0, false)
	}
}

func TestP9_2FloorAndFind(t *testing.T) {
	for n := range 70 {
		var keys []int64
		for i := range n {
			keys = append(keys, int64(10*i-300))
		}
		for v := int64(-320); v < int64(10*n-280); v++ {
			askAsPlain(t, keys, v)
		}
		askAsPlain(t, keys, math.MinInt64)
		askAsPlain(t, keys, math.MaxInt64)
	}
	ends := []int64{math.MinInt64, -1, 0, math.MaxInt64}
	for _, v := range []int64{math.MinInt64, math.MinInt64 + 1, -2, -1, 0, 1, math.MaxInt64 - 1, math.MaxInt64} {
		askAsPlain(t, ends, v)
		askAsPlain(t, ends[1:3], v)
	}
}

// TestP9_2Edges: below the first key, at each key, between two, above the last one, no keys.
func TestP9_2Edges(t *testing.T) {
	keys := []string{"", "a", "a\x00", "ab", "b"}
	for i, k := range keys {
		mustFloor(t, keys, k, i)
		mustFind(t, keys, k, i, true)
		askAsPlain(t, keys, k+"\x00\x00")
		askAsPlain(t, keys, k+"\xff")
	}
	mustFloor(t, keys[1:], "", 0)
	mustFind(t, keys[1:], "", 0, false)
	mustFloor(t, keys, "aa", 3)
	mustFind(t, keys, "aa", 0, false)
	mustFloor(t, keys, "c", 5)
	mustFind(t, keys, "c", 0, false)
	mustFloor(t, []string{}, "", 0)
	mustFind(t, []string{}, "", 0, false)
	mustFind(t, []int64(nil), 0, 0, false)
	mustFind(t, []int64{0}, 0, 0, true)
}

func TestP9_2Reals(t *testing.T) {
	zero, minus, nan, inf := 0.0, math.Copysign(0, -1), math.NaN(), math.Inf(1)
	lists := [][]float64{nil, {nan}, {nan, -inf, -1, zero, 1, inf}, {-1, minus, 2}, {zero}, {minus}, {-inf, inf}, {nan, zero}, {nan, inf}}
	for _, keys := range lists {
		for _, v := range []float64{zero, minus, nan, noNumber(9), inf, -inf, 1, -1, 0.5, -0.5, 2} {
			askAsPlain(t, keys, v)
		}
	}
}

// TestP9_2KeysThatDoNotRise: some number from 0 to how many they are.
func TestP9_2KeysThatDoNotRise(t *testing.T) {
	r := byChance(3)
	for range 3000 {
		keys := someInts(r, r.IntN(12), 6)
		v := int64(r.IntN(9) - 4)
		if r.IntN(2) == 0 && len(keys) > 0 {
			v = keys[r.IntN(len(keys))]
		}
		if got := dict.Floor(keys, v); got < 0 || got > len(keys) {
			t.Fatalf("Floor(%v, %d) = %d", keys, v, got)
		}
		if got, is := dict.Find(keys, v); got < 0 || got > len(keys) || !is && got != 0 {
			t.Fatalf("Find(%v, %d) = %d, %v", keys, v, got, is)
		}
	}
	nan := math.NaN()
	for _, keys := range [][]float64{{1, nan}, {nan, nan, nan}, {2, nan, 1, nan}} {
		for _, v := range []float64{nan, 0, 1, 5} {
			if got := dict.Floor(keys, v); got < 0 || got > len(keys) {
				t.Errorf("Floor(%v, %v) = %d", keys, v, got)
			}
		}
	}
}

package wide_test

import (
	"fmt"
	"math"
	"math/big"
	"slices"
	"testing"

	"colonnade/wide"
)

// total is the sum of numbers of any size.
func total(l []int64) *big.Int {
	b := num(0)
	for _, i := range l {
		b.Add(b, num(i))
	}
	return b
}

func TestP21_1Of(t *testing.T) {
	for i, want := range map[int64]wide.Wide{0: {}, 1: {Lo: 1}, -1: {Hi: -1, Lo: top}, math.MaxInt64: {Lo: 1<<63 - 1}, math.MinInt64: {Hi: -1, Lo: 1 << 63}} {
		if got := wide.Of(i); got != want {
			t.Errorf("Of(%d) = %v, want %v", i, got, want)
		}
	}
	r := byChance(1)
	for range 2000 {
		i := someInt(r)
		mustBe(t, fmt.Sprintf("Of(%d)", i), wide.Of(i), num(i))
	}
	for _, i := range ints() {
		mustBe(t, fmt.Sprintf("Of(%d)", i), wide.Of(i), num(i))
	}
}

func TestP21_1TimesOfEnds(t *testing.T) {
	const low, high = math.MinInt64, math.MaxInt64
	for _, x := range []struct {
		i    int64
		n    int
		want wide.Wide
	}{
		{low, low, wide.Wide{Hi: 1 << 62}}, {low, high, wide.Wide{Hi: -1 << 62, Lo: 1 << 63}}, {high, low, wide.Wide{Hi: -1 << 62, Lo: 1 << 63}}, {high, high, wide.Wide{Hi: 1<<62 - 1, Lo: 1}},
		{low, 1, wide.Wide{Hi: -1, Lo: 1 << 63}}, {low, -1, wide.Wide{Lo: 1 << 63}}, {1, low, wide.Wide{Hi: -1, Lo: 1 << 63}}, {-1, low, wide.Wide{Lo: 1 << 63}},
		{high, 1, wide.Wide{Lo: 1<<63 - 1}}, {high, -1, wide.Wide{Hi: -1, Lo: 1<<63 + 1}}, {1, high, wide.Wide{Lo: 1<<63 - 1}}, {-1, high, wide.Wide{Hi: -1, Lo: 1<<63 + 1}},
		{1, 1, wide.Wide{Lo: 1}}, {1, -1, wide.Wide{Hi: -1, Lo: top}}, {-1, 1, wide.Wide{Hi: -1, Lo: top}}, {-1, -1, wide.Wide{Lo: 1}},
		{0, low, wide.Wide{}}, {0, high, wide.Wide{}}, {low, 0, wide.Wide{}}, {high, 0, wide.Wide{}}, {0, 0, wide.Wide{}}, {0, -1, wide.Wide{}}, {-1, 0, wide.Wide{}},
	} {
		if got := wide.Times(x.i, x.n); got != x.want {
			t.Errorf("Times(%d, %d) = %v, want %v", x.i, x.n, got, x.want)
		}
	}
}

func TestP21_1Times(t *testing.T) {
	for _, i := range ints() {
		for _, n := range ints() {
			mustBe(t, fmt.Sprintf("Times(%d, %d)", i, n), wide.Times(i, int(n)), mul(num(i), num(n)))
		}
	}
	r := byChance(2)
	for range 20000 {
		i, n := someInt(r), someInt(r)
		mustBe(t, fmt.Sprintf("Times(%d, %d)", i, n), wide.Times(i, int(n)), mul(num(i), num(n)))
	}
}

func TestP21_1SumOfNoneAndOne(t *testing.T) {
	for _, l := range [][]int64{nil, {}, make([]int64, 0, 9), {0}, {0, 0, 0}, {5, -5}, {math.MaxInt64, math.MinInt64, 1}} {
		if got := wide.Sum(l...); got != (wide.Wide{}) {
			t.Errorf("Sum(%v) = %v", l, got)
		}
	}
	for _, i := range ints() {
		mustBe(t, fmt.Sprintf("Sum(%d)", i), wide.Sum(i), num(i))
		for _, k := range ints() {
			mustBe(t, fmt.Sprintf("Sum(%d, %d)", i, k), wide.Sum(i, k), add(num(i), num(k)))
		}
	}
}

func TestP21_1SumOfManyGreat(t *testing.T) {
	for _, n := range []int{2, 3, 4, 5, 1000, 1 << 20} {
		for _, i := range []int64{math.MinInt64, math.MaxInt64, -1, 1, 0} {
			mustBe(t, fmt.Sprintf("Sum of %d times %d", n, i), wide.Sum(slices.Repeat([]int64{i}, n)...), mul(num(i), num(int64(n))))
		}
		swing := slices.Repeat([]int64{math.MaxInt64, math.MinInt64}, n)
		mustBe(t, "Sum of both ends in turn", wide.Sum(swing...), num(int64(-n)))
		slices.Sort(swing)
		mustBe(t, "Sum of the least ones first", wide.Sum(swing...), num(int64(-n)))
		slices.Reverse(swing)
		mustBe(t, "Sum of the greatest ones first", wide.Sum(swing...), num(int64(-n)))
	}
}

func TestP21_1SumOfAny(t *testing.T) {
	r := byChance(3)
	for range 2000 {
		l := make([]int64, r.IntN(40))
		for i := range l {
			l[i] = someInt(r)
		}
		mustBe(t, fmt.Sprintf("Sum(%d)", l), wide.Sum(l...), total(l))
	}
}

// TestP21_6AnyOrder: the same numbers shuffled, cut into lots, each lot summed on its own, and those that repeat told by Times.
func TestP21_6AnyOrder(t *testing.T) {
	r := byChance(4)
	for range 1000 {
		l := make([]int64, 1+r.IntN(60))
		for i := range l {
			l[i] = ints()[r.IntN(len(ints()))]
		}
		want := wide.Sum(l...)
		mustBe(t, "Sum", want, total(l))
		r.Shuffle(len(l), func(i, k int) { l[i], l[k] = l[k], l[i] })
		if got := wide.Sum(l...); got != want {
			t.Fatalf("Sum(%d) = %v, in another order %v", l, got, want)
		}
		lots := make([]wide.Wide, 5)
		for _, i := range l {
			k := r.IntN(len(lots))
			lots[k] = lots[k].Plus(wide.Of(i))
		}
		got := lots[4].Plus(lots[1].Plus(lots[0])).Plus(lots[3].Plus(lots[2]))
		if got != want {
			t.Fatalf("the lots of %d come to %v, all to %v", l, got, want)
		}
		often := map[int64]int{}
		for _, i := range l {
			often[i]++
		}
		got = wide.Wide{}
		for i, n := range often {
			got = wide.Times(i, n).Plus(got)
		}
		if got != want {
			t.Fatalf("by Times %d come to %v, by Sum to %v", l, got, want)
		}
	}
}

// TestP21_6CutAnywhere: a list cut in two at each place.
func TestP21_6CutAnywhere(t *testing.T) {
	l := slices.Concat(ints(), ints(), []int64{math.MinInt64, math.MinInt64, math.MinInt64})
	want := wide.Sum(l...)
	for n := range len(l) + 1 {
		if got := wide.Sum(l[:n]...).Plus(wide.Sum(l[n:]...)); got != want {
			t.Errorf("cut at %d: %v, want %v", n, got, want)
		}
		if got := want.Minus(wide.Sum(l[:n]...)); got != wide.Sum(l[n:]...) {
			t.Errorf("the first %d taken off: %v", n, got)
		}
	}
}

// TestP21_6TimesIsManySums: Times of parts of a number of times.
func TestP21_6TimesIsManySums(t *testing.T) {
	r := byChance(5)
	for _, i := range ints() {
		for range 20 {
			n, k := int(someInt(r)>>1), int(someInt(r)>>1)
			if got := wide.Times(i, n).Plus(wide.Times(i, k)); got != wide.Times(i, n+k) {
				t.Fatalf("Times(%d, %d) and Times(.., %d) = %v", i, n, k, got)
			}
		}
		for n := range 9 {
			if got := wide.Sum(slices.Repeat([]int64{i}, n)...); got != wide.Times(i, n) {
				t.Errorf("Times(%d, %d) = %v, Sum %v", i, n, wide.Times(i, n), got)
			}
		}
	}
}

func TestP21_10Sum(t *testing.T) {
	room := []int64{5, -7, math.MaxInt64, math.MinInt64, 11, 13}
	whole := slices.Clone(room)
	first := wide.Sum(room[1:4]...)
	if !slices.Equal(room, whole) {
		t.Errorf("the list is %d now, was %d", room, whole)
	}
	room[1], room[2] = 0, 0
	if first != wide.Of(-8) || wide.Sum(room[:3]...) != wide.Of(5) {
		t.Errorf("the first sum is %v, that of the list that was turned %v", first, wide.Sum(room[:3]...))
	}
}

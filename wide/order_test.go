package wide_test

import (
	"math"
	"slices"
	"testing"

	"colonnade/wide"
)

// mustAdd holds Plus and Minus of two wides against the numbers, modulo 2^128.
func mustAdd(t *testing.T, a, b wide.Wide) {
	t.Helper()
	if got, want := a.Plus(b), brought(add(number(a), number(b))); got != want {
		t.Fatalf("%v.Plus(%v) = %v, want %v", a, b, got, want)
	}
	if got, want := a.Minus(b), brought(sub(number(a), number(b))); got != want {
		t.Fatalf("%v.Minus(%v) = %v, want %v", a, b, got, want)
	}
}

func TestP21_2Edges(t *testing.T) {
	l := edges()
	for _, a := range l {
		for _, b := range l {
			mustAdd(t, a, b)
		}
	}
}

func TestP21_2Any(t *testing.T) {
	r := byChance(6)
	for range 30000 {
		mustAdd(t, someWide(r), someWide(r))
	}
}

func TestP21_2CarryAndBorrow(t *testing.T) {
	type of = wide.Wide
	for _, x := range []struct{ a, b, sum of }{
		{of{0, top}, of{0, 1}, of{1, 0}}, {of{0, top}, of{0, top}, of{1, top - 1}}, {of{-1, top}, of{0, 1}, of{0, 0}}, {of{-1, top}, of{-1, top}, of{-1, top - 1}},
		{of{0, 1 << 63}, of{0, 1 << 63}, of{1, 0}}, {of{0, 1<<63 - 1}, of{0, 1 << 63}, of{0, top}}, {of{5, 0}, of{-5, 0}, of{0, 0}}, {of{5, 1}, of{-6, top}, of{0, 0}},
		{of{math.MaxInt64, top}, of{0, 1}, of{math.MinInt64, 0}}, {of{math.MaxInt64, top}, of{math.MaxInt64, top}, of{-1, top - 1}}, {of{math.MaxInt64, 1}, of{1, 0}, of{math.MinInt64, 1}},
		{of{math.MinInt64, 0}, of{-1, top}, of{math.MaxInt64, top}}, {of{math.MinInt64, 0}, of{math.MinInt64, 0}, of{0, 0}}, {of{math.MinInt64, 0}, of{math.MaxInt64, top}, of{-1, top}},
	} {
		if got := x.a.Plus(x.b); got != x.sum {
			t.Errorf("%v.Plus(%v) = %v, want %v", x.a, x.b, got, x.sum)
		}
		if got := x.sum.Minus(x.b); got != x.a {
			t.Errorf("%v.Minus(%v) = %v, want %v", x.sum, x.b, got, x.a)
		}
	}
}

// TestP21_2OutAndBack: a sum that leaves the bounds on the way, on either side, and comes back.
func TestP21_2OutAndBack(t *testing.T) {
	low, high := brought(least()), brought(greatest())
	for _, step := range []wide.Wide{wide.Of(1), wide.Of(7), {Hi: 1}, {Hi: 1, Lo: top}, high} {
		for _, near := range []wide.Wide{wide.Of(0), wide.Of(1), {Hi: 0, Lo: top}} {
			above, below := high.Minus(near), low.Plus(near)
			if got := above.Plus(step).Plus(step).Minus(step).Minus(step); got != above {
				t.Errorf("%v: above by %v and back: %v", above, step, got)
			}
			if got := below.Minus(step).Minus(step).Plus(step).Plus(step); got != below {
				t.Errorf("%v: below by %v and back: %v", below, step, got)
			}
		}
	}
	if high.Plus(wide.Of(1)) != low || low.Minus(wide.Of(1)) != high {
		t.Errorf("one above the greatest is %v, one below the least %v", high.Plus(wide.Of(1)), low.Minus(wide.Of(1)))
	}
}

// TestP21_6Group: with Plus the wides are a commutative group, and Minus undoes it.
func TestP21_6Group(t *testing.T) {
	r := byChance(7)
	l := edges()
	for range 3000 {
		l = append(l, someWide(r))
	}
	zero := wide.Wide{}
	for _, a := range l {
		b, c := l[r.IntN(len(l))], l[r.IntN(len(l))]
		if a.Plus(b) != b.Plus(a) || a.Plus(b).Plus(c) != a.Plus(b.Plus(c)) {
			t.Errorf("%v, %v, %v: another sum in another order", a, b, c)
		}
		if a.Plus(zero) != a || zero.Plus(a) != a || a.Minus(zero) != a || a.Minus(a) != zero || a.Plus(zero.Minus(a)) != zero {
			t.Errorf("%v: 0 or its opposite", a)
		}
		if a.Plus(b).Minus(b) != a || a.Minus(b).Plus(b) != a || a.Minus(b) != zero.Minus(b.Minus(a)) || a.Minus(b) != a.Plus(zero.Minus(b)) {
			t.Errorf("%v, %v: Plus and Minus do not undo each other", a, b)
		}
	}
}

func TestP21_3CmpOfEdges(t *testing.T) {
	l := edges()
	for i, a := range l {
		for k, b := range l {
			want := number(a).Cmp(number(b))
			if got := a.Cmp(b); got != want || (got == 0) != (i == k) {
				t.Fatalf("%v.Cmp(%v) = %d, want %d", a, b, got, want)
			}
		}
	}
}

func TestP21_3CmpOneApart(t *testing.T) {
	for _, a := range edges() {
		up := a.Plus(wide.Of(1))
		if want := number(up).Cmp(number(a)); a.Cmp(a) != 0 || a.Cmp(up) != -want || up.Cmp(a) != want {
			t.Errorf("%v and %v: %d, %d, %d", a, up, a.Cmp(a), a.Cmp(up), up.Cmp(a))
		}
	}
}

func TestP21_3CmpOfOneHalf(t *testing.T) {
	r := byChance(8)
	for range 5000 {
		a := someWide(r)
		hi, lo := a, a
		hi.Hi, lo.Lo = someWide(r).Hi, someWide(r).Lo
		for _, b := range []wide.Wide{hi, lo, someWide(r), {Hi: a.Hi, Lo: ^a.Lo}, {Hi: ^a.Hi, Lo: a.Lo}} {
			if got, want := a.Cmp(b), number(a).Cmp(number(b)); got != want {
				t.Fatalf("%v.Cmp(%v) = %d, want %d", a, b, got, want)
			}
		}
	}
}

func TestP21_3Int(t *testing.T) {
	r := byChance(9)
	l := edges()
	for range 5000 {
		l = append(l, someWide(r))
	}
	for _, w := range l {
		b := number(w)
		want := int64(0)
		if b.IsInt64() {
			want = b.Int64()
		}
		if got, is := w.Int(); got != want || is != b.IsInt64() {
			t.Errorf("%v.Int() = %d, %v", w, got, is)
		}
	}
}

func TestP21_3IntAtItsBounds(t *testing.T) {
	for _, x := range []struct {
		w    wide.Wide
		want int64
		is   bool
	}{
		{wide.Wide{Lo: 1<<63 - 1}, math.MaxInt64, true}, {wide.Wide{Lo: 1 << 63}, 0, false}, {wide.Wide{Lo: top}, 0, false}, {wide.Wide{Hi: 1}, 0, false}, {wide.Wide{Hi: 1, Lo: 5}, 0, false},
		{wide.Wide{Hi: -1, Lo: 1 << 63}, math.MinInt64, true}, {wide.Wide{Hi: -1, Lo: 1<<63 - 1}, 0, false}, {wide.Wide{Hi: -1}, 0, false}, {wide.Wide{Hi: -2, Lo: top}, 0, false}, {wide.Wide{Hi: -2}, 0, false},
		{wide.Wide{}, 0, true}, {wide.Wide{Hi: -1, Lo: top}, -1, true}, {wide.Wide{Hi: math.MinInt64}, 0, false}, {wide.Wide{Hi: math.MaxInt64, Lo: 1}, 0, false},
	} {
		if got, is := x.w.Int(); got != x.want || is != x.is {
			t.Errorf("%v.Int() = %d, %v; want %d, %v", x.w, got, is, x.want, x.is)
		}
	}
}

// TestP21_7Order: sorted by Cmp, wides stand as their numbers do.
func TestP21_7Order(t *testing.T) {
	r := byChance(10)
	l := edges()
	for range 3000 {
		l = append(l, someWide(r))
	}
	r.Shuffle(len(l), func(i, k int) { l[i], l[k] = l[k], l[i] })
	slices.SortFunc(l, wide.Wide.Cmp)
	for i := range len(l) - 1 {
		if number(l[i]).Cmp(number(l[i+1])) > 0 {
			t.Errorf("%v stands ahead of %v", l[i], l[i+1])
		}
		if l[i].Cmp(l[i+1]) != -l[i+1].Cmp(l[i]) {
			t.Errorf("%v and %v, and the other way round", l[i], l[i+1])
		}
	}
}

func TestP21_7OfAndInt(t *testing.T) {
	l := slices.Sorted(slices.Values(ints()))
	for k, i := range l {
		if got, is := wide.Of(i).Int(); got != i || !is {
			t.Errorf("Of(%d).Int() = %d, %v", i, got, is)
		}
		for _, j := range l[k:] {
			if c := wide.Of(i).Cmp(wide.Of(j)); (i < j) != (c == -1) || (i == j) != (c == 0) {
				t.Errorf("Of(%d) and Of(%d): %d", i, j, c)
			}
		}
	}
	for _, w := range edges() {
		if i, is := w.Int(); is && wide.Of(i) != w {
			t.Errorf("%v.Int() = %d", w, i)
		}
	}
}

// TestP21_7PlusKeepsOrder: where neither sum leaves the bounds.
func TestP21_7PlusKeepsOrder(t *testing.T) {
	r := byChance(11)
	l := edges()
	kept := 0
	for range 60000 {
		a, b, c := l[r.IntN(len(l))], l[r.IntN(len(l))], someWide(r)
		if within(add(number(a), number(c))) && within(add(number(b), number(c))) {
			kept++
			if a.Plus(c).Cmp(b.Plus(c)) != a.Cmp(b) {
				t.Fatalf("%v and %v, each with %v", a, b, c)
			}
		}
	}
	if kept < 20000 {
		t.Errorf("%d alone stayed within the bounds", kept)
	}
}

func TestP21_10Wides(t *testing.T) {
	for _, a := range edges() {
		b := wide.Wide{Hi: 3, Lo: top}
		p, q := a, b
		p.Plus(q)
		p.Minus(q)
		p.Cmp(q)
		p.Int()
		p.Text()
		wide.Mean(p, 3)
		if p != a || q != b {
			t.Errorf("%v and %v are %v and %v now", a, b, p, q)
		}
	}
}

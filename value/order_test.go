package value_test

import (
	"math"
	"testing"

	"colonnade/api"
	"colonnade/value"
)

func TestP5_3Compare(t *testing.T) {
	for _, a := range values() {
		for _, b := range values() {
			if c := value.Compare(a, b); c != order(a, b) {
				t.Fatalf("Compare(%s, %s) = %d", show(a), show(b), c)
			}
		}
	}
}

func TestP5_3CompareByHand(t *testing.T) {
	for _, x := range []struct {
		a, b api.Value
		want int
	}{
		{null, null, 0}, {null, number(0), -1}, {null, number(math.MinInt64), -1}, {null, float(-math.MaxFloat64), -1}, {null, text(""), -1},
		{number(5), number(-5), 1}, {number(math.MinInt64), number(math.MaxInt64), -1}, {number(7), number(7), 0},
		{number(2), float(2), -1}, {number(0), float(0), -1}, {float(1.5), number(2), -1}, {float(1.5), number(1), 1}, {float(-1.5), number(-1), -1}, {float(-1.5), number(-2), 1}, {float(-0.5), number(0), -1}, {float(0.5), number(0), 1},
		{number(9), text(""), -1}, {float(math.MaxFloat64), text(""), -1}, {number(math.MaxInt64), text("\x00"), -1},
		{number(1<<53 + 1), float(1 << 53), 1}, {number(1<<53 + 1), float(1<<53 + 2), -1}, {number(-1<<53 - 1), float(-1 << 53), -1}, {number(-1<<53 - 1), float(-1<<53 - 2), 1}, {number(1 << 53), float(1 << 53), -1},
		{number(math.MaxInt64), float(1 << 63), -1}, {number(math.MaxInt64), float(math.Nextafter(1<<63, 0)), 1}, {number(math.MaxInt64 - 1023), float(math.Nextafter(1<<63, 0)), -1},
		{number(math.MinInt64), float(-1 << 63), -1}, {number(math.MinInt64), float(math.Nextafter(-1<<63, math.Inf(-1))), 1}, {number(math.MinInt64), float(math.Nextafter(-1<<63, 0)), -1},
		{number(math.MaxInt64), float(math.MaxFloat64), -1}, {number(math.MinInt64), float(-math.MaxFloat64), 1},
		{float(math.SmallestNonzeroFloat64), float(0), 1}, {float(-math.SmallestNonzeroFloat64), float(0), -1}, {float(math.SmallestNonzeroFloat64), number(0), 1}, {float(-math.SmallestNonzeroFloat64), number(0), -1}, {float(math.SmallestNonzeroFloat64), number(1), -1},
		{text("a"), text(""), 1}, {text("b"), text("aa"), 1}, {text("a"), text("a\x00"), -1}, {text("\x7f"), text("\x80"), -1}, {text("\xff"), text("é"), 1}, {text(longest), text(longest[1:]), 1},
	} {
		if c := value.Compare(x.a, x.b); c != x.want {
			t.Errorf("Compare(%s, %s) = %d, not %d", show(x.a), show(x.b), c, x.want)
		}
		if c := value.Compare(x.b, x.a); c != -x.want {
			t.Errorf("Compare(%s, %s) = %d, not %d", show(x.b), show(x.a), c, -x.want)
		}
	}
}

// TestP5_3CompareBeside holds each Int against the Reals that are nearest to it and their neighbours.
func TestP5_3CompareBeside(t *testing.T) {
	r := byChance(3)
	l := append([]int64(nil), ints...)
	for range 2000 {
		l = append(l, int64(r.Uint64())>>r.IntN(64))
	}
	for _, i := range l {
		f := float64(i)
		for _, g := range []float64{f, math.Nextafter(f, math.Inf(1)), math.Nextafter(f, math.Inf(-1)), f + 0.5, f - 0.5, f + 1, f - 1, f / 2, -f} {
			a, b := number(i), value.Real(g)
			if c := value.Compare(a, b); c != order(a, b) {
				t.Fatalf("Compare(%v, %v) = %d", a, b, c)
			}
			if c := value.Compare(b, a); c != order(b, a) {
				t.Fatalf("Compare(%v, %v) = %d", b, a, c)
			}
		}
	}
}

func TestP5_3CompareWhatMayNotBe(t *testing.T) {
	for _, a := range notValues() {
		for _, b := range notValues() {
			if c := value.Compare(a, b); c != 0 {
				t.Fatalf("Compare(%s, %s) = %d", show(a), show(b), c)
			}
		}
		for _, b := range values() {
			if c := value.Compare(a, b); c != -1 {
				t.Fatalf("Compare(%s, %s) = %d", show(a), show(b), c)
			}
			if c := value.Compare(b, a); c != 1 {
				t.Fatalf("Compare(%s, %s) = %d", show(b), show(a), c)
			}
		}
	}
}

func TestP5_7TotalOrder(t *testing.T) {
	l := values()
	n := len(l)
	c := make([][]int, n)
	for i, a := range l {
		c[i] = make([]int, n)
		for k, b := range l {
			c[i][k] = value.Compare(a, b)
			if c[i][k] != 0 && c[i][k] != 1 && c[i][k] != -1 {
				t.Fatalf("Compare(%s, %s) = %d", show(a), show(b), c[i][k])
			}
			if (c[i][k] == 0) != same(a, b) {
				t.Fatalf("%s and %s: alike, but not the same, or the reverse", show(a), show(b))
			}
		}
	}
	for i := range n {
		for k := range n {
			if c[i][k] != -c[k][i] {
				t.Fatalf("%s and %s: not turned", show(l[i]), show(l[k]))
			}
			for m := range n {
				if c[i][k] <= 0 && c[k][m] <= 0 && c[i][m] > 0 {
					t.Fatalf("%s, %s, %s", show(l[i]), show(l[k]), show(l[m]))
				}
			}
		}
	}
}

package value_test

import (
	"math"
	"testing"

	"colonnade/api"
	"colonnade/value"
)

func TestP5_1May(t *testing.T) {
	for _, v := range values() {
		if !value.May(v) {
			t.Errorf("%s may not be", show(v))
		}
	}
	for _, v := range notValues() {
		if value.May(v) {
			t.Errorf("%s may be", show(v))
		}
	}
}

func TestP5_1MayByLength(t *testing.T) {
	for _, n := range []int{0, 1, 255, 256, api.MaxText - 1, api.MaxText, api.MaxText + 1, api.MaxText + 2, 2*api.MaxText + 2, 1 << 20} {
		for _, b := range []byte{0, 'a', 255} {
			s := make([]byte, n)
			for i := range s {
				s[i] = b
			}
			if value.May(text(string(s))) != (n <= 65535) {
				t.Errorf("a Text of %d bytes %d", n, b)
			}
		}
	}
}

func TestP5_2Int(t *testing.T) {
	for _, i := range ints {
		if v := value.Int(i); !same(v, api.Value{Kind: 1, Int: i}) || !value.May(v) {
			t.Errorf("Int(%d) = %v", i, v)
		}
	}
}

func TestP5_2Text(t *testing.T) {
	for _, s := range texts {
		if v := value.Text(s); !same(v, api.Value{Kind: 2, Text: s}) || !value.May(v) {
			t.Errorf("Text(%.40q) = %s", s, show(v))
		}
	}
	for _, s := range []string{longest + "x", longest + longest} {
		if v := value.Text(s); !same(v, api.Value{Kind: 2, Text: s}) || value.May(v) {
			t.Errorf("a Text of %d bytes", len(s))
		}
	}
}

func TestP5_2None(t *testing.T) {
	if v := value.None(); !same(v, api.Value{}) || !value.May(v) {
		t.Errorf("None() = %v", v)
	}
}

func TestP5_2Real(t *testing.T) {
	for _, f := range reals() {
		if v := value.Real(f); !same(v, api.Value{Kind: 3, Real: f}) || !value.May(v) {
			t.Errorf("Real(%v) = %v", f, v)
		}
	}
	if v := value.Real(minusZero); !same(v, api.Value{Kind: 3}) || !value.May(v) {
		t.Errorf("Real of the zero with a sign = %v", v)
	}
	odd := []float64{math.Inf(1), math.Inf(-1), math.NaN(), -math.NaN(), math.Float64frombits(0x7ff0000000000001), math.Float64frombits(0xffffffffffffffff)}
	for _, f := range odd {
		if v := value.Real(f); !same(v, api.Value{}) {
			t.Errorf("Real(%v) = %v", f, v)
		}
	}
}

func TestP5_6Fits(t *testing.T) {
	l := append(values(), notValues()...)
	for _, typ := range []int{math.MinInt, -1, api.Null, api.Int, api.Text, api.Real, 4, 9, math.MaxInt} {
		for _, nulls := range []bool{false, true} {
			for _, name := range []string{"", "a", "0 no name", longest} {
				col := api.Column{Name: name, Type: typ, Null: nulls}
				for _, v := range l {
					want := value.May(v) && (v.Kind == typ || v.Kind == api.Null && nulls)
					if value.Fits(col, v) != want {
						t.Fatalf("Fits({%d %t}, %s) is not %t", typ, nulls, show(v), want)
					}
				}
			}
		}
	}
}

func TestP5_6FitsByHand(t *testing.T) {
	for _, x := range []struct {
		typ  int
		null bool
		v    api.Value
		want bool
	}{
		{api.Int, false, number(3), true}, {api.Int, false, null, false}, {api.Int, false, text(""), false}, {api.Int, false, float(0), false},
		{api.Int, true, null, true}, {api.Int, true, number(0), true}, {api.Int, true, text(""), false},
		{api.Int, true, api.Value{Real: minusZero}, false}, {api.Int, true, api.Value{Kind: api.Int, Text: "x"}, false},
		{api.Text, false, text(longest), true}, {api.Text, false, text(longest + "x"), false}, {api.Text, true, number(0), false}, {api.Text, true, null, true},
		{api.Real, false, float(0.5), true}, {api.Real, false, float(math.NaN()), false}, {api.Real, false, float(minusZero), false},
		{api.Null, false, null, true}, {9, false, api.Value{Kind: 9}, false}, {9, true, null, true}, {9, false, null, false},
	} {
		if value.Fits(api.Column{Name: "a", Type: x.typ, Null: x.null}, x.v) != x.want {
			t.Errorf("Fits({%d %t}, %s) is not %t", x.typ, x.null, show(x.v), x.want)
		}
	}
}

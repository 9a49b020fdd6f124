package wide_test

import (
	"math"
	"testing"

	"colonnade/api"
	"colonnade/wide"
)

// TestExamples: the chapter's rows whose answers are wides.
func TestExamples(t *testing.T) {
	for i, x := range []struct{ got, want wide.Wide }{
		{wide.Of(-1), wide.Wide{Hi: -1, Lo: 18446744073709551615}},
		{wide.Of(5), wide.Wide{Hi: 0, Lo: 5}},
		{wide.Sum(), wide.Wide{}},
		{wide.Sum(9223372036854775807, 9223372036854775807), wide.Wide{Hi: 0, Lo: 18446744073709551614}},
		{wide.Times(-9223372036854775808, 4), wide.Wide{Hi: -2, Lo: 0}},
		{wide.Times(3, -2), wide.Wide{Hi: -1, Lo: 18446744073709551610}},
		{wide.Wide{Lo: 18446744073709551615}.Plus(wide.Wide{Lo: 1}), wide.Wide{Hi: 1}},
		{wide.Wide{Hi: 9223372036854775807, Lo: 18446744073709551615}.Plus(wide.Wide{Lo: 1}), wide.Wide{Hi: -9223372036854775808}},
		{wide.Wide{}.Minus(wide.Wide{Lo: 1}), wide.Wide{Hi: -1, Lo: 18446744073709551615}},
	} {
		if x.got != x.want {
			t.Errorf("row %d: %v, want %v", i, x.got, x.want)
		}
	}
	if c := (wide.Wide{Hi: -1, Lo: 5}).Cmp(wide.Wide{}); c != -1 {
		t.Errorf("Cmp = %d", c)
	}
	if i, is := (wide.Wide{Lo: 9223372036854775808}).Int(); i != 0 || is {
		t.Errorf("Int of 2^63 = %d, %v", i, is)
	}
	if i, is := (wide.Wide{Hi: -1, Lo: 9223372036854775808}).Int(); i != -9223372036854775808 || !is {
		t.Errorf("Int of -2^63 = %d, %v", i, is)
	}
}

func TestExamplesOfTexts(t *testing.T) {
	for _, x := range []struct {
		w    wide.Wide
		text string
	}{{wide.Wide{Hi: 1}, "18446744073709551616"}, {wide.Wide{Hi: -1, Lo: 18446744073709551615}, "-1"}, {wide.Wide{Hi: -9223372036854775808}, "-170141183460469231731687303715884105728"}} {
		if got := x.w.Text(); got != x.text {
			t.Errorf("%v.Text() = %s, want %s", x.w, got, x.text)
		}
		if got, is := wide.Read(x.text); got != x.w || !is {
			t.Errorf("Read(%s) = %v, %v", x.text, got, is)
		}
	}
	for _, text := range []string{"-0", "170141183460469231731687303715884105728"} {
		if got, is := wide.Read(text); got != (wide.Wide{}) || is {
			t.Errorf("Read(%s) = %v, %v", text, got, is)
		}
	}
}

func TestExamplesOfMean(t *testing.T) {
	for _, x := range []struct {
		total wide.Wide
		n     int
		want  float64
		e     api.Errno
	}{
		{wide.Wide{Lo: 7}, 2, 3.5, api.OK},
		{wide.Wide{Hi: -1, Lo: 18446744073709551609}, 2, -3.5, api.OK},
		{wide.Wide{Lo: 1}, 3, 0x1.5555555555555p-2, api.OK},
		{wide.Wide{}, 5, 0, api.OK},
		{wide.Wide{Lo: 1}, 0, 0, api.ErrArg},
		{wide.Wide{Lo: 9007199254740993}, 1, 9007199254740992, api.OK},
		{wide.Wide{Lo: 9007199254740995}, 1, 9007199254740996, api.OK},
	} {
		if got, e := wide.Mean(x.total, x.n); math.Float64bits(got) != math.Float64bits(x.want) || e != x.e {
			t.Errorf("Mean(%v, %d) = %v, %d; want %v, %d", x.total, x.n, got, e, x.want, x.e)
		}
	}
}

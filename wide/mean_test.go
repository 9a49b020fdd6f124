package wide_test

import (
	"math"
	"math/big"
	"testing"

	"colonnade/api"
	"colonnade/wide"
)

// counts are numbers from 1 to the greatest int about which something turns.
func counts() []int {
	l := []int{1, 2, 3, 5, 6, 7, 9, 10, 12, 1000, 16777216, math.MaxInt, math.MaxInt - 1}
	for _, n := range []int{4, 31, 32, 52, 53, 54, 61, 62} {
		l = append(l, 1<<n-1, 1<<n, 1<<n+1)
	}
	return l
}

func someCount(r interface{ Uint64() uint64 }) int {
	return max(1, int(r.Uint64()>>1)>>(r.Uint64()%63))
}

func TestP21_5NumberBelowOne(t *testing.T) {
	for _, total := range edges() {
		for _, n := range []int{0, -1, -2, -3, -1 << 31, -1 << 32, math.MinInt, math.MinInt + 1} {
			if got, e := wide.Mean(total, n); math.Float64bits(got) != 0 || e != api.ErrArg {
				t.Errorf("Mean(%v, %d) = %v, %d", total, n, got, e)
			}
		}
	}
}

func TestP21_5OfZero(t *testing.T) {
	for _, n := range counts() {
		if got, e := wide.Mean(wide.Wide{}, n); math.Float64bits(got) != 0 || e != api.OK {
			t.Errorf("Mean(0, %d) = %v, %d", n, got, e)
		}
	}
}

func TestP21_5Written(t *testing.T) {
	for _, x := range []struct {
		total wide.Wide
		n     int
		want  float64
	}{
		{wide.Of(1), 1, 1}, {wide.Of(-1), 1, -1}, {wide.Of(1), 2, 0.5}, {wide.Of(-1), 4, -0.25}, {wide.Of(2), 3, 0x1.5555555555555p-1}, {wide.Of(1), 10, 0.1}, {wide.Of(-3), 10, -0.3}, {wide.Of(17), 3, 5.666666666666667},
		{wide.Of(1<<53 - 1), 1, 1<<53 - 1}, {wide.Of(1 << 53), 1, 1 << 53}, {wide.Of(1<<53 + 1), 1, 1 << 53}, {wide.Of(1<<53 + 2), 1, 1<<53 + 2}, {wide.Of(1<<53 + 3), 1, 1<<53 + 4}, {wide.Of(-1<<53 - 1), 1, -1 << 53}, {wide.Of(-1<<53 - 3), 1, -1<<53 - 4},
		{wide.Of(math.MaxInt64), 1, 1 << 63}, {wide.Of(math.MaxInt64 - 511), 1, 1 << 63}, {wide.Of(math.MaxInt64 - 512), 1, 1<<63 - 1024}, {wide.Of(math.MinInt64), 1, -1 << 63}, {wide.Of(math.MinInt64), math.MaxInt64, -1}, {wide.Of(math.MaxInt64), math.MaxInt64, 1},
		{wide.Wide{Lo: 1 << 63}, 2, 1 << 62}, {wide.Wide{Lo: top}, 1, 1 << 64}, {wide.Wide{Lo: top - 1023}, 1, 1 << 64}, {wide.Wide{Lo: top - 1024}, 1, 1<<64 - 2048}, {wide.Wide{Hi: 1}, 1, 1 << 64}, {wide.Wide{Hi: 1}, 2, 1 << 63}, {wide.Wide{Hi: -1}, 1, -1 << 64},
		{wide.Wide{Hi: math.MaxInt64, Lo: top}, 1, 1 << 127}, {wide.Wide{Hi: math.MinInt64}, 1, -1 << 127}, {wide.Wide{Hi: math.MinInt64}, 2, -1 << 126}, {wide.Wide{Hi: math.MinInt64}, 1 << 62, -1 << 65}, {wide.Wide{Hi: math.MinInt64}, math.MaxInt64, -1 << 64}, {wide.Wide{Hi: math.MaxInt64, Lo: top}, math.MaxInt64, 1 << 64},
		{wide.Of(1), 1 << 62, 0x1p-62}, {wide.Of(1), math.MaxInt64, 0x1p-63}, {wide.Of(-1), math.MaxInt64, -0x1p-63}, {wide.Of(3), 1 << 62, 0x1.8p-61},
	} {
		if got, e := wide.Mean(x.total, x.n); got != x.want || e != api.OK {
			t.Errorf("Mean(%v, %d) = %b, %d; want %b", x.total, x.n, got, e, x.want)
		}
	}
}

func TestP21_5Edges(t *testing.T) {
	for _, total := range edges() {
		for _, n := range counts() {
			mustBeNearest(t, total, n)
		}
	}
}

func TestP21_5Any(t *testing.T) {
	r := byChance(14)
	for range 20000 {
		mustBeNearest(t, someWide(r), someCount(r))
	}
}

// TestP21_5SmallQuotients: every quotient of two small numbers, most of which have no end in bits.
func TestP21_5SmallQuotients(t *testing.T) {
	for i := range int64(120) {
		for n := range 120 {
			mustBeNearest(t, wide.Of(i), n+1)
			mustBeNearest(t, wide.Of(-i), n+1)
		}
	}
}

// mustRoundMiddle takes the quotient (2 * m + 1) * 2^power / 2, m having 53 bits, which lies in the middle of two float64: as times * itself, divided by times; and the totals by it.
func mustRoundMiddle(t *testing.T, m int64, power int, times int) {
	t.Helper()
	odd := add(mul(num(m), num(2)), num(1))
	b, n := mul(mul(odd, num(int64(times))), pow(2, max(power-1, 0))), times
	for range max(1-power, 0) {
		n *= 2
	}
	if n < 1 || !within(b) {
		t.Fatalf("(2 * %d + 1) * 2^%d / 2 by %d: no such total or number", m, power, times)
	}
	even, below, above := math.Ldexp(float64(m+m%2), power), math.Ldexp(float64(m), power), math.Ldexp(float64(m+1), power)
	one := wide.Of(1)
	for _, sign := range []int64{1, -1} {
		w, f := brought(mul(b, num(sign))), float64(sign)
		lower, upper := w.Minus(one), w.Plus(one)
		if sign < 0 {
			lower, upper = upper, lower
		}
		if got := mean(t, w, n); got != f*even {
			t.Errorf("Mean(%v, %d), in the middle, = %b, want %b", w, n, got, f*even)
		}
		if got := mean(t, lower, n); got != f*below {
			t.Errorf("Mean(%v, %d), just nearer to 0 than the middle, = %b, want %b", lower, n, got, f*below)
		}
		if got := mean(t, upper, n); got != f*above {
			t.Errorf("Mean(%v, %d), just farther from 0 than the middle, = %b, want %b", upper, n, got, f*above)
		}
		mustBeNearest(t, w, n)
		mustBeNearest(t, lower, n)
		mustBeNearest(t, upper, n)
	}
}

// TestP21_5Middle: to the even one, up and down, and just beside the middle to the nearer one; a number of 53 ones goes up to a power of two.
func TestP21_5Middle(t *testing.T) {
	for _, m := range []int64{1 << 52, 1<<52 + 1, 1<<52 + 2, 1<<52 + 3, 0x15555555555555, 0x1AAAAAAAAAAAAA, 1<<53 - 4, 1<<53 - 3, 1<<53 - 2, 1<<53 - 1} {
		for power := range 74 {
			mustRoundMiddle(t, m, power+1, 1)
		}
		for _, times := range []int{2, 3, 5, 7, 10, 1000, 65537, 1<<32 - 1, 1 << 32, 1<<53 - 1, 1<<62 - 57, 1<<63 - 25} {
			for power := 1; new(big.Int).Mul(num(m), num(int64(times))).BitLen()+power <= 126; power++ {
				mustRoundMiddle(t, m, power, times)
			}
		}
		for _, times := range []int{1, 3, 5, 7, 11} {
			for power := -57; power <= 0; power++ {
				mustRoundMiddle(t, m, power, times)
			}
		}
	}
}

// TestP21_5BesideTheMiddle: what is just beside the middle by far less than the bits that a word has, in either direction.
func TestP21_5BesideTheMiddle(t *testing.T) {
	r := byChance(15)
	for range 20000 {
		m := 1<<52 + r.Int64N(1<<52)
		n := someCount(r)
		b := mul(add(mul(num(m), num(2)), num(1)), num(int64(n)))
		if room := 126 - b.BitLen(); room > 0 {
			b.Lsh(b, uint(r.IntN(room+1)))
		}
		for _, off := range []int64{-2, -1, 0, 1, 2} {
			mustBeNearest(t, brought(add(b, num(off))), n)
			mustBeNearest(t, brought(neg(add(b, num(off)))), n)
		}
	}
}

// TestP21_5QuotientsBelowOne: totals below their number, down to one of very many.
func TestP21_5QuotientsBelowOne(t *testing.T) {
	r := byChance(16)
	for _, n := range counts() {
		for _, i := range []int64{1, 2, 3, int64(n) - 1, int64(n) / 2, int64(n) / 3, int64(n)/2 + 1} {
			mustBeNearest(t, wide.Of(i), n)
			mustBeNearest(t, wide.Of(-i), n)
		}
		for range 50 {
			mustBeNearest(t, wide.Of(r.Int64N(int64(n))), n)
		}
	}
}

// TestP21_9GoesUp: Mean does not fall as the total goes up, one step at a time or many.
func TestP21_9GoesUp(t *testing.T) {
	l := edges()
	for _, n := range counts() {
		last := math.Inf(-1)
		for _, total := range l {
			got := mean(t, total, n)
			if got < last {
				t.Errorf("Mean(%v, %d) = %v, of a smaller total %v", total, n, got, last)
			}
			last = got
		}
		for _, total := range l {
			last := math.Inf(-1)
			for k := range int64(7) {
				if near := add(number(total), num(k-3)); within(near) {
					got := mean(t, brought(near), n)
					if got < last {
						t.Errorf("Mean(%v, %d) = %v, of one less %v", near, n, got, last)
					}
					last = got
				}
			}
		}
	}
}

// TestP21_9Whole: of n times a whole number that a float64 holds Mean is that number.
func TestP21_9Whole(t *testing.T) {
	r := byChance(17)
	l := []int64{0, 1, -1, 2, -2, 3, 1000, 1<<53 - 1, 1<<53 - 2, -1<<53 + 1, -1<<53 + 2, 1 << 52, 1<<52 + 1}
	for range 300 {
		l = append(l, someInt(r)>>11)
	}
	for _, i := range l {
		for _, n := range counts() {
			if got := mean(t, wide.Times(i, n), n); got != float64(i) || int64(got) != i {
				t.Errorf("Mean of %d times %d = %v", n, i, got)
			}
		}
	}
}

func TestP21_9Opposite(t *testing.T) {
	r := byChance(18)
	l := edges()
	for range 5000 {
		l = append(l, someWide(r))
	}
	for _, total := range l {
		if total == (wide.Wide{Hi: math.MinInt64}) {
			continue
		}
		for _, n := range []int{1, 2, 3, 7, someCount(r), math.MaxInt} {
			if got, want := mean(t, wide.Wide{}.Minus(total), n), 0-mean(t, total, n); got != want {
				t.Errorf("Mean of 0 less %v by %d = %v, want %v", total, n, got, want)
			}
		}
	}
}

// TestW0: whatever the arguments, each call answers, and the same again.
func TestW0(t *testing.T) {
	r := byChance(19)
	for range 20000 {
		a, b := someWide(r), someWide(r)
		i, n := someInt(r), int(someInt(r))
		f, e := wide.Mean(a, n)
		if again, _ := wide.Mean(a, n); again != f || (e == api.ErrArg) != (n < 1) || (e == api.OK) != (n >= 1) {
			t.Fatalf("Mean(%v, %d) = %v, %d, then %v", a, n, f, e, again)
		}
		if wide.Times(i, n) != wide.Times(i, n) || a.Plus(b) != a.Plus(b) || a.Minus(b) != a.Minus(b) || a.Text() != a.Text() {
			t.Fatalf("%v, %v, %d, %d: two answers", a, b, i, n)
		}
		text := make([]byte, r.IntN(60))
		for k := range text {
			text[k] = byte(r.Uint64())
		}
		mustRead(t, string(text))
	}
}

package wide_test

import (
	"math"
	"math/big"
	"math/rand/v2"
	"regexp"
	"slices"
	"strings"
	"testing"

	"colonnade/api"
	"colonnade/wide"
)

const top = math.MaxUint64

func byChance(seed uint64) *rand.Rand { return rand.New(rand.NewPCG(seed, 21)) }

// pow is base^n.
func pow(base int64, n int) *big.Int {
	return new(big.Int).Exp(big.NewInt(base), big.NewInt(int64(n)), nil)
}

func add(a, b *big.Int) *big.Int { return new(big.Int).Add(a, b) }

func sub(a, b *big.Int) *big.Int { return new(big.Int).Sub(a, b) }

func mul(a, b *big.Int) *big.Int { return new(big.Int).Mul(a, b) }

func neg(a *big.Int) *big.Int { return new(big.Int).Neg(a) }

func num(i int64) *big.Int { return big.NewInt(i) }

func least() *big.Int { return neg(pow(2, 127)) }

func greatest() *big.Int { return sub(pow(2, 127), num(1)) }

func within(b *big.Int) bool { return b.Cmp(least()) >= 0 && b.Cmp(greatest()) <= 0 }

// number is what a wide is: Hi * 2^64 + Lo.
func number(w wide.Wide) *big.Int {
	return add(mul(num(w.Hi), pow(2, 64)), new(big.Int).SetUint64(w.Lo))
}

// brought is the wide that a number is modulo 2^128: 2^128 is taken off or put on as often as it takes.
func brought(b *big.Int) wide.Wide {
	b = new(big.Int).Set(b)
	for b.Cmp(greatest()) > 0 {
		b.Sub(b, pow(2, 128))
	}
	for b.Cmp(least()) < 0 {
		b.Add(b, pow(2, 128))
	}
	lo := new(big.Int).Mod(b, pow(2, 64))
	hi := new(big.Int).Div(sub(b, lo), pow(2, 64))
	return wide.Wide{Hi: hi.Int64(), Lo: lo.Uint64()}
}

// sizes are numbers from 0 on about which something turns: powers of two and of ten and their neighbours.
func sizes() []*big.Int {
	l := []*big.Int{num(0), num(3), num(7), num(99)}
	for _, n := range []int{0, 1, 8, 31, 32, 52, 53, 54, 55, 62, 63, 64, 65, 95, 96, 116, 117, 118, 125, 126, 127} {
		for k := range int64(5) {
			l = append(l, add(pow(2, n), num(k-2)))
		}
	}
	for n := range 39 {
		l = append(l, sub(pow(10, n), num(1)), pow(10, n), add(pow(10, n), num(1)))
	}
	return append(l, mul(sub(pow(2, 63), num(1)), pow(2, 64)), sub(pow(2, 127), pow(2, 64)), sub(pow(2, 127), pow(2, 63)))
}

// edges are the wides of these sizes and of either sign, each once, rising.
func edges() []wide.Wide {
	var l []wide.Wide
	for _, b := range sizes() {
		for _, c := range []*big.Int{b, neg(b)} {
			if within(c) {
				l = append(l, brought(c))
			}
		}
	}
	for _, hi := range []int64{math.MinInt64, math.MinInt64 + 1, -2, -1, 0, 1, 2, math.MaxInt64 - 1, math.MaxInt64} {
		for _, lo := range []uint64{0, 1, 5, 1<<63 - 1, 1 << 63, 1<<63 + 1, top - 1, top} {
			l = append(l, wide.Wide{Hi: hi, Lo: lo})
		}
	}
	slices.SortFunc(l, func(a, b wide.Wide) int { return number(a).Cmp(number(b)) })
	return slices.Compact(l)
}

// ints are int64 about which something turns.
func ints() []int64 {
	l := []int64{0, 1, -1, 2, -2, 3, -3, 7, -7, 10, 99, math.MinInt64, math.MinInt64 + 1, math.MaxInt64, math.MaxInt64 - 1}
	for _, n := range []int{8, 31, 32, 33, 52, 53, 54, 61, 62} {
		for k := range int64(3) {
			l = append(l, 1<<n+k-1, -1<<n+k-1)
		}
	}
	return l
}

// someWide has bits by chance, of any length and of either sign, or all but a few alike.
func someWide(r *rand.Rand) wide.Wide {
	hi, lo := r.Uint64(), r.Uint64()
	switch r.IntN(4) {
	case 0:
		hi, lo = hi&r.Uint64()&r.Uint64(), lo&r.Uint64()&r.Uint64()
	case 1:
		hi, lo = hi|r.Uint64()|r.Uint64(), lo|r.Uint64()|r.Uint64()
	}
	b := add(mul(new(big.Int).SetUint64(hi>>1), pow(2, 64)), new(big.Int).SetUint64(lo))
	b.Rsh(b, uint(r.IntN(128)))
	if r.IntN(2) == 0 {
		b.Neg(b)
	}
	return brought(b)
}

// someInt is of any length and of either sign.
func someInt(r *rand.Rand) int64 { return int64(r.Uint64()) >> r.IntN(64) }

// formOfText is what the text of a whole number looks like.
var formOfText = regexp.MustCompile(`\A(0|-?[1-9][0-9]*)\z`)

// read is a plain reading of Read.
func read(text string) (wide.Wide, bool) {
	if !formOfText.MatchString(text) || len(text) > 100 {
		return wide.Wide{}, false
	}
	b := num(0)
	for _, c := range strings.TrimPrefix(text, "-") {
		b = add(mul(b, num(10)), num(int64(c-'0')))
	}
	if text[0] == '-' {
		b = neg(b)
	}
	if !within(b) {
		return wide.Wide{}, false
	}
	return brought(b), true
}

func mustRead(t *testing.T, text string) {
	t.Helper()
	want, is := read(text)
	if got, was := wide.Read(text); got != want || was != is {
		t.Errorf("Read(%.60q) = %v, %v; want %v, %v", text, got, was, want, is)
	}
}

// mustBe holds a wide against the number that it should be.
func mustBe(t *testing.T, what string, got wide.Wide, want *big.Int) {
	t.Helper()
	if !within(want) {
		t.Fatalf("%s: %v is no wide", what, want)
	}
	if got != brought(want) {
		t.Errorf("%s = %v, which is %v; want %v", what, got, number(got), want)
	}
}

// distance is how far a float64 is from a number.
func distance(f float64, q *big.Rat) *big.Rat {
	d := new(big.Rat).SetFloat64(f)
	return d.Abs(d.Sub(d, q))
}

func exact(total wide.Wide, n int) *big.Rat {
	return new(big.Rat).SetFrac(number(total), num(int64(n)))
}

// mean is Mean by a number that is above 0.
func mean(t *testing.T, total wide.Wide, n int) float64 {
	t.Helper()
	f, e := wide.Mean(total, n)
	if e != api.OK {
		t.Fatalf("Mean(%v, %d): %d", total, n, e)
	}
	return f
}

// mustBeNearest holds Mean against the exact quotient: neither of its neighbours is nearer, and if one is as near, it is the odd one.
func mustBeNearest(t *testing.T, total wide.Wide, n int) {
	t.Helper()
	got, q := mean(t, total, n), exact(total, n)
	if math.IsNaN(got) || math.IsInf(got, 0) || q.Sign() == 0 && math.Float64bits(got) != 0 {
		t.Fatalf("Mean(%v, %d) = %v", total, n, got)
	}
	far := distance(got, q)
	for _, side := range []float64{math.Inf(-1), math.Inf(1)} {
		other := math.Nextafter(got, side)
		c := far.Cmp(distance(other, q))
		if c > 0 || c == 0 && math.Float64bits(got)%2 == 1 {
			t.Errorf("Mean(%v, %d) = %b, and %b is nearer, or as near and even", total, n, got, other)
		}
	}
	if f, _ := q.Float64(); f != got {
		t.Errorf("Mean(%v, %d) = %b, the library has %b", total, n, got, f)
	}
}

package value_test

import (
	"fmt"
	"math"
	"math/big"
	"math/rand/v2"
	"regexp"
	"sort"
	"strconv"
	"strings"

	"colonnade/api"
)

func number(i int64) api.Value { return api.Value{Kind: api.Int, Int: i} }

func text(s string) api.Value { return api.Value{Kind: api.Text, Text: s} }

func float(f float64) api.Value { return api.Value{Kind: api.Real, Real: f} }

var null api.Value

// minusZero is the zero with a sign, which no constant is.
var minusZero = math.Copysign(0, -1)

// ints are those around which a float64 begins to have gaps, or an int64 ends, and some between.
var ints = []int64{
	math.MinInt64, math.MinInt64 + 1, math.MinInt64 + 512, math.MinInt64 + 1024, math.MinInt64 + 1025,
	-1<<54 - 2, -1<<53 - 2, -1<<53 - 1, -1 << 53, -1<<53 + 1, -1 << 31, -100, -12, -2, -1, 0, 1, 2, 3, 9, 10, 99, 100, 1 << 31,
	1<<53 - 1, 1 << 53, 1<<53 + 1, 1<<53 + 2, 1<<53 + 3, 1<<54 + 1, 1<<62 + 1,
	math.MaxInt64 - 1024, math.MaxInt64 - 1023, math.MaxInt64 - 512, math.MaxInt64 - 511, math.MaxInt64 - 1, math.MaxInt64,
}

// positive are Reals above 0: the ends of float64, of its even part and of the exponents at which the form of the text turns, whole ones beside ints, and those whose digits are hard to find.
var positive = []float64{
	math.SmallestNonzeroFloat64, 2 * math.SmallestNonzeroFloat64, 3 * math.SmallestNonzeroFloat64, 0x1p-1023, 0x1.ffffffffffffep-1023, 0x1p-1022, 0x1.0000000000001p-1022, 1e-308, 1e-100, 1e-99, 1e-10, 1e-9,
	9.999999999999999e-07, 1e-6, 2.5e-7, 9.999999999999999e-06, 1e-5, 1.0000000000000003e-05, 1.2345678901234567e-05, 0.0001, 0.001, 0x1p-44,
	0.1, 0.2, 0.1 + 0.2, 1.0 / 3, 0.25, 0.5, 0.75, math.Nextafter(1, 0), 1, math.Nextafter(1, 2), 1.5, 2, 2.5, 9.5, 10, 99.5, 100, 123456.75, 5e-324,
	1<<47 + 0.125, 1<<47 + 0.375, 1<<50 + 0.25, 1<<50 + 0.75, 1<<52 - 0.5, 1 << 52, 1<<53 - 1, 1 << 53, 1<<53 + 2, 1<<53 + 4, 1<<54 + 4, 1 << 62,
	math.Nextafter(1<<63, 0), 1 << 63, math.Nextafter(1<<63, math.Inf(1)), 1 << 64, 1e19, 498484681984085570, 5.8339553793802237e+23,
	99999999999999980000, 1e20, 123456789012345680000, math.Nextafter(1e21, 0), 1e21, math.Nextafter(1e21, math.Inf(1)), 1e22, 1e23, 9e99, 1e100, 1e300, 1e308, math.Nextafter(math.MaxFloat64, 0), math.MaxFloat64,
}

// reals are the zero, and the positive ones and their likes below 0.
func reals() []float64 {
	l := []float64{0}
	for _, f := range positive {
		l = append(l, f, -f)
	}
	return l
}

// longest is a text of as many bytes as one may have.
var longest = strings.Repeat("x", api.MaxText)

// texts have no bytes, or those around which one stands for itself, or begin alike, or are as long as they may be.
var texts = []string{
	"", "\x00", "\x00\x00", "\x1f", " ", "!", "\"", "#", "0", "[", "\\", "]", "a", "a\x00", "a\"\\\x00", "aa", "ab", "b", "null", "~", "\x7f", "\x80", "é", "\xff", "\xff\xff", "\\x41", "\\\\", "\"\"", longest, longest[1:] + "\x00", longest[1:],
}

// values are all that may be, of each kind.
func values() []api.Value {
	l := []api.Value{null}
	for _, i := range ints {
		l = append(l, number(i))
	}
	for _, f := range reals() {
		l = append(l, float(f))
	}
	for _, s := range texts {
		l = append(l, text(s))
	}
	return l
}

// notValues may not be: fields that do not count and are not zero, Reals that do not end, texts that are too long, kinds that are none.
func notValues() []api.Value {
	var l []api.Value
	for _, v := range []api.Value{null, number(0), number(5), text(""), text("x"), float(0), float(0.5)} {
		for _, f := range []float64{minusZero, 1, -1, math.SmallestNonzeroFloat64, math.Inf(1), math.Inf(-1), math.NaN()} {
			if v.Kind != api.Real {
				w := v
				w.Real = f
				l = append(l, w)
			}
		}
		for _, i := range []int64{1, -1, math.MinInt64} {
			if v.Kind != api.Int {
				w := v
				w.Int = i
				l = append(l, w)
			}
		}
		for _, s := range []string{"x", "\x00", longest + "x"} {
			if v.Kind != api.Text {
				w := v
				w.Text = s
				l = append(l, w)
			}
		}
	}
	for _, f := range []float64{minusZero, math.Inf(1), math.Inf(-1), math.NaN(), -math.NaN()} {
		l = append(l, float(f))
	}
	for _, s := range []string{longest + "x", longest + "\x00", longest + longest} {
		l = append(l, text(s))
	}
	for _, k := range []int{math.MinInt, -1 << 32, -256, -3, -2, -1, 4, 5, 9, 256, 1<<32 + api.Int, math.MaxInt} {
		l = append(l, api.Value{Kind: k}, api.Value{Kind: k, Int: 1}, api.Value{Kind: k, Text: "x"}, api.Value{Kind: k, Real: 1})
	}
	return l
}

// same is whether two values are one, the signs of zeros and what is no number included.
func same(a, b api.Value) bool {
	return a.Kind == b.Kind && a.Int == b.Int && math.Float64bits(a.Real) == math.Float64bits(b.Real) && a.Text == b.Text
}

// show is a value for a message, its text cut short.
func show(v api.Value) string {
	return fmt.Sprintf("{%d %d %v %.40q}", v.Kind, v.Int, v.Real, v.Text)
}

// exact is the number that an Int or a Real is.
func exact(v api.Value) *big.Rat {
	if v.Kind == api.Int {
		return new(big.Rat).SetInt64(v.Int)
	}
	return new(big.Rat).SetFloat64(v.Real)
}

// order is a plain reading of the order of values that may be.
func order(a, b api.Value) int {
	stands := []int{api.Null: 0, api.Int: 1, api.Real: 1, api.Text: 2}
	switch {
	case stands[a.Kind] < stands[b.Kind]:
		return -1
	case stands[a.Kind] > stands[b.Kind]:
		return 1
	case a.Kind == api.Null:
		return 0
	case a.Kind == api.Text:
		return bytewise(a.Text, b.Text)
	}
	c := exact(a).Cmp(exact(b))
	if c == 0 && a.Kind != b.Kind && a.Kind == api.Int {
		return -1
	}
	if c == 0 && a.Kind != b.Kind {
		return 1
	}
	return c
}

// bytewise is a plain reading of texts held against each other.
func bytewise(a, b string) int {
	for i := range len(a) {
		switch {
		case i >= len(b) || a[i] > b[i]:
			return 1
		case a[i] < b[i]:
			return -1
		}
	}
	if len(a) < len(b) {
		return -1
	}
	return 0
}

// told is a plain reading of the text of a value that may be.
func told(v api.Value) string {
	switch v.Kind {
	case api.Int:
		return big.NewInt(v.Int).String()
	case api.Real:
		return toldReal(v.Real)
	case api.Text:
		s := "\""
		for _, b := range []byte(v.Text) {
			switch {
			case b == 34:
				s += "\\\""
			case b == 92:
				s += "\\\\"
			case b < 32 || b > 126:
				s += "\\x" + string("0123456789abcdef"[b/16]) + string("0123456789abcdef"[b%16])
			default:
				s += string(rune(b))
			}
		}
		return s + "\""
	}
	return "null"
}

// toldReal is told of a Real.
func toldReal(f float64) string {
	if f == 0 {
		return "0.0"
	}
	if f < 0 {
		return "-" + toldReal(-f)
	}
	digits, exponent := fewest(f)
	if exponent < -5 || exponent > 20 {
		sign, size := "+", exponent
		if exponent < 0 {
			sign, size = "-", -exponent
		}
		power := strconv.Itoa(size)
		if size < 10 {
			power = "0" + power
		}
		return digits[:1] + "." + orZero(digits[1:]) + "e" + sign + power
	}
	if exponent < 0 {
		return "0." + strings.Repeat("0", -exponent-1) + digits
	}
	for len(digits) <= exponent {
		digits += "0"
	}
	return digits[:exponent+1] + "." + orZero(digits[exponent+1:])
}

func orZero(digits string) string {
	if digits == "" {
		return "0"
	}
	return digits
}

// span is what is read as a Real above 0: the numbers from least to most, the ends included, if the Real is even. They, and the Real itself, are told in fourths of its last place, which are 2^power each.
type span struct {
	least, here, most int64
	power             int
	even              bool
}

// spanOf goes half way to the neighbours of f. The one below a power of two is nearer, unless that is among the least ones.
func spanOf(f float64) span {
	bits := math.Float64bits(f)
	m, e := int64(bits&(1<<52-1)), int(bits>>52)
	if e > 0 {
		m += 1 << 52
	}
	s := span{least: 4*m - 2, here: 4 * m, most: 4*m + 2, power: max(e, 1) - 1077, even: m%2 == 0}
	if m == 1<<52 && e > 1 {
		s.least = 4*m - 1
	}
	return s
}

// fewest are the digits by which f, which is above 0, is told, without zeros behind them, and the decimal exponent of the first.
func fewest(f float64) (digits string, exponent int) {
	s, first := spanOf(f), int(math.Floor(math.Log10(f)))
	n := 1 + sort.Search(16, func(i int) bool { list, _ := s.nearest(i+1, first); return list != nil })
	list, unit := s.nearest(n, first)
	all := list.String()
	return strings.TrimRight(all, "0"), unit + len(all) - 1
}

// nearest is the list of at most n digits within the span that is nearest to the Real, as a number of units of a power of ten; of two as near the even one; nil, if there is none. First is the Real's decimal exponent, or one beside it.
func (s span) nearest(n, first int) (list *big.Int, unit int) {
	finest := first - n - 1
	fourth, one := scales(s.power, finest)
	here := times(s.here, fourth)
	var far *big.Int
	for u := finest; u <= first+1; u++ {
		floor := new(big.Int).Quo(here, one)
		for k := range int64(2) {
			c := new(big.Int).Add(floor, big.NewInt(k))
			at := new(big.Int).Mul(c, one)
			if c.Sign() == 0 || len(strings.TrimRight(c.String(), "0")) > n || !s.has(at, fourth) {
				continue
			}
			away := at.Sub(at, here)
			away.Abs(away)
			if list == nil || away.Cmp(far) < 0 || away.Cmp(far) == 0 && unit == u && c.Bit(0) == 0 {
				list, unit, far = c, u, away
			}
		}
		one = times(10, one)
	}
	return list, unit
}

// has is whether a number is within the span, if a fourth is so much.
func (s span) has(number, fourth *big.Int) bool {
	low, high := number.Cmp(times(s.least, fourth)), number.Cmp(times(s.most, fourth))
	return low > 0 && high < 0 || s.even && (low == 0 || high == 0)
}

// scales are whole numbers that stand to each other as 2^power to 10^unit.
func scales(power, unit int) (two, ten *big.Int) {
	two, ten = big.NewInt(1), big.NewInt(1)
	tens := new(big.Int).Exp(big.NewInt(10), big.NewInt(int64(max(unit, -unit))), nil)
	if unit < 0 {
		two.Mul(two, tens)
	} else {
		ten.Mul(ten, tens)
	}
	if power < 0 {
		ten.Lsh(ten, uint(-power))
	} else {
		two.Lsh(two, uint(power))
	}
	return two, ten
}

func times(n int64, x *big.Int) *big.Int { return new(big.Int).Mul(big.NewInt(n), x) }

var (
	intForm  = regexp.MustCompile(`^(0|-?[1-9][0-9]*)$`)
	realForm = regexp.MustCompile(`^-?(0|[1-9][0-9]*)\.[0-9]+(e[+-][0-9][0-9]+)?$`)
	textForm = regexp.MustCompile(`^"([ !#-\[\]-~]|\\["\\]|\\x([01][0-9a-f]|7f|[89a-f][0-9a-f]))*"$`)
	escape   = regexp.MustCompile(`\\(x..|.)`)
)

// read is a plain reading of Read, by the forms of the texts.
func read(s string) (api.Value, bool) {
	switch {
	case s == "null":
		return null, true
	case intForm.MatchString(s):
		i, _ := new(big.Int).SetString(s, 10)
		if i.IsInt64() {
			return number(i.Int64()), true
		}
	case realForm.MatchString(s) && len(s) < 40:
		x, is := new(big.Rat).SetString(s)
		if !is {
			return null, false
		}
		if f, _ := x.Float64(); !math.IsInf(f, 0) && toldReal(f) == s && !(f == 0 && math.Signbit(f)) {
			return float(f), true
		}
	case textForm.MatchString(s):
		t := escape.ReplaceAllStringFunc(s[1:len(s)-1], func(e string) string {
			if e[1] != 'x' {
				return e[1:]
			}
			n, _ := strconv.ParseUint(e[2:], 16, 8)
			return string([]byte{byte(n)})
		})
		if len(t) <= api.MaxText {
			return text(t), true
		}
	}
	return null, false
}

// byChance is the same in each run.
func byChance(seed uint64) *rand.Rand { return rand.New(rand.NewPCG(5, seed)) }

// anyReal is a Real of any bits, or one whose exponent is near those of Ints.
func anyReal(r *rand.Rand) float64 {
	for {
		b := r.Uint64()
		if r.IntN(2) == 0 {
			b = b&^(0x7ff<<52) | uint64(1023-20+r.IntN(100))<<52
		}
		f := math.Float64frombits(b)
		if !math.IsInf(f, 0) && !math.IsNaN(f) && f != 0 {
			return f
		}
	}
}

package wide_test

import (
	"math"
	"math/big"
	"slices"
	"strings"
	"testing"

	"colonnade/wide"
)

// ofDigits are numbers of n digits: the least and the greatest, such with zeros within and at the end, and with every digit.
func ofDigits(n int) []*big.Int {
	l := []*big.Int{pow(10, n-1), sub(pow(10, n), num(1)), add(pow(10, n-1), num(1))}
	for k := range n {
		l = append(l, add(pow(10, n-1), pow(10, k)), mul(num(9), pow(10, k)), sub(pow(10, n-1), pow(10, k)), add(pow(10, n-1), sub(pow(10, k), num(1))))
	}
	for d := range int64(9) {
		repeated, _ := new(big.Int).SetString(strings.Repeat(num(d+1).String(), n), 10)
		l = append(l, repeated, mul(num(d+1), pow(10, n-1)))
	}
	mixed, _ := new(big.Int).SetString("1203405607890010002000300004000050000006"[:n], 10)
	return append(l, mixed)
}

// mustTurn holds Text and Read of a wide against the library's digits.
func mustTurn(t *testing.T, w wide.Wide) {
	t.Helper()
	text := number(w).String()
	if got := w.Text(); got != text {
		t.Errorf("%v.Text() = %q, want %q", w, got, text)
	}
	if got, is := wide.Read(text); got != w || !is {
		t.Errorf("Read(%q) = %v, %v; want %v", text, got, is, w)
	}
}

func TestP21_4EveryLength(t *testing.T) {
	lengths := map[int]int{}
	for n := range 39 {
		for _, b := range ofDigits(n + 1) {
			for _, c := range []*big.Int{b, neg(b)} {
				if within(c) {
					mustTurn(t, brought(c))
					lengths[len(brought(c).Text())]++
				}
			}
		}
	}
	for n := range 40 {
		if lengths[n+1] == 0 {
			t.Errorf("no text of %d bytes", n+1)
		}
	}
}

func TestP21_4Written(t *testing.T) {
	for text, w := range map[string]wide.Wide{
		"0": {}, "1": {Lo: 1}, "-1": {Hi: -1, Lo: top}, "10": {Lo: 10}, "-10": {Hi: -1, Lo: top - 9},
		"9223372036854775807": {Lo: 1<<63 - 1}, "9223372036854775808": {Lo: 1 << 63}, "-9223372036854775808": {Hi: -1, Lo: 1 << 63}, "-9223372036854775809": {Hi: -1, Lo: 1<<63 - 1},
		"9999999999999999999": {Lo: 9999999999999999999}, "10000000000000000000": {Lo: 10000000000000000000}, "10000000000000000001": {Lo: 10000000000000000001}, "-10000000000000000000": {Hi: -1, Lo: top - 9999999999999999999},
		"18446744073709551615": {Lo: top}, "18446744073709551616": {Hi: 1}, "-18446744073709551615": {Hi: -1, Lo: 1}, "-18446744073709551616": {Hi: -1}, "-18446744073709551617": {Hi: -2, Lo: top},
		"170141183460469231731687303715884105727": {Hi: math.MaxInt64, Lo: top}, "-170141183460469231731687303715884105727": {Hi: math.MinInt64, Lo: 1}, "-170141183460469231731687303715884105728": {Hi: math.MinInt64},
	} {
		if got := w.Text(); got != text {
			t.Errorf("%v.Text() = %q, want %q", w, got, text)
		}
		if got, is := wide.Read(text); got != w || !is {
			t.Errorf("Read(%q) = %v, %v; want %v", text, got, is, w)
		}
	}
}

func TestP21_4Any(t *testing.T) {
	r := byChance(12)
	for range 20000 {
		mustTurn(t, someWide(r))
	}
	for _, w := range edges() {
		mustTurn(t, w)
	}
}

// noTexts are none's: signs, zeros ahead, blanks, signs that are no digits, bytes that are no UTF-8, other ways to write a number.
func noTexts() []string {
	return []string{
		"", "-", "+", "--", "+-1", "-+1", "--1", "+1", "+0", "-0", "-00", "00", "01", "-01", "007", "000", "0-", "1-", "1-1", "-1-",
		" ", " 1", "1 ", "- 1", "1 2", "\t1", "1\t", "\n1", "1\n", "1\r\n", "\x00", "1\x00", "\x001", "-1\x00",
		"x", "1x", "x1", "a", "0x10", "0b1", "0o7", "1_000", "1,000", "1.0", "1.", ".1", "1e3", "1E3", "inf", "NaN", "null", "\"1\"", "(1)",
		"/", ":", "1/", "1:", "/1", ":1", "1/2", "-/", "-:", ":0", "/0", "\xff", "1\xff", "\xff1", "\x80", "\xc3\x28", "-\xff", "١", "１", "−1", "1️", "½",
		"170141183460469231731687303715884105728", "170141183460469231731687303715884105729", "-170141183460469231731687303715884105729", "-170141183460469231731687303715884105730",
		"170141183460469231731687303715884105730", "170141183460469231731687303715884106727", "180141183460469231731687303715884105727", "270141183460469231731687303715884105727",
		"0170141183460469231731687303715884105727", "-0170141183460469231731687303715884105728", "1701411834604692317316873037158841057270", "-1701411834604692317316873037158841057280",
		"340282366920938463463374607431768211455", "340282366920938463463374607431768211456", "340282366920938463463374607431768211457", "-340282366920938463463374607431768211455", "-340282366920938463463374607431768211456",
		"999999999999999999999999999999999999999", "-999999999999999999999999999999999999999", "9999999999999999999999999999999999999999", "10000000000000000000000000000000000000000",
	}
}

func TestP21_4NoTexts(t *testing.T) {
	for _, text := range noTexts() {
		if got, is := wide.Read(text); got != (wide.Wide{}) || is {
			t.Errorf("Read(%q) = %v, %v", text, got, is)
		}
		mustRead(t, text)
	}
}

// TestP21_4ManyDigits: texts that are too long, such among them that come to a small number modulo 2^128.
func TestP21_4ManyDigits(t *testing.T) {
	for _, n := range []int{38, 39, 40, 41, 42, 50, 64, 128, 1000, 1 << 20} {
		for _, text := range []string{strings.Repeat("9", n), strings.Repeat("0", n), "1" + strings.Repeat("0", n), strings.Repeat("0", n) + "1", "-" + strings.Repeat("1", n+1), "-" + strings.Repeat("0", n) + "1", strings.Repeat("-", n), strings.Repeat(" ", n) + "1", "1" + strings.Repeat(" ", n)} {
			want, is := read(text)
			if n > 38 && is {
				t.Fatalf("%.60q is a wide's", text)
			}
			if got, was := wide.Read(text); got != want || was != is {
				t.Errorf("Read(%.60q), %d bytes = %v, %v", text, len(text), got, was)
			}
		}
	}
	for k := range int64(40) {
		for _, b := range []*big.Int{add(pow(2, 128), num(k-20)), add(mul(num(3), pow(2, 128)), num(k-20)), add(pow(2, 127), num(k-20)), add(mul(num(7), pow(2, 130)), num(k-20)), add(pow(2, 256), num(k-20))} {
			mustRead(t, b.String())
			mustRead(t, neg(b).String())
		}
	}
}

// TestP21_4OneByteOff: texts with a byte made every other one, put in or taken out at every place.
func TestP21_4OneByteOff(t *testing.T) {
	for _, text := range []string{"", "0", "7", "-1", "10", "-908", "18446744073709551616", "-10000000000000000000", "170141183460469231731687303715884105727", "-170141183460469231731687303715884105728", "99999999999999999999999999999999999999"} {
		for i := range len(text) + 1 {
			for c := range 256 {
				mustRead(t, text[:i]+string([]byte{byte(c)})+text[i:])
				if i < len(text) {
					mustRead(t, text[:i]+string([]byte{byte(c)})+text[i+1:])
				}
			}
			mustRead(t, text[:i])
			mustRead(t, text[i:])
			if i < len(text) {
				mustRead(t, text[:i]+text[i+1:])
			}
		}
	}
}

// TestP21_4ShortTexts: every text of up to four out of a few bytes.
func TestP21_4ShortTexts(t *testing.T) {
	l := []string{""}
	for range 4 {
		var longer []string
		for _, text := range l {
			for _, c := range []byte("-+ 0123789/:a\xff") {
				longer = append(longer, text+string([]byte{c}))
			}
		}
		l = longer
		for _, text := range l {
			mustRead(t, text)
		}
	}
}

// TestP21_8TurnBack: no two wides have one text, and what Read takes, Text tells again.
func TestP21_8TurnBack(t *testing.T) {
	r := byChance(13)
	l := edges()
	for range 20000 {
		w := someWide(r)
		l = append(l, w, w.Plus(wide.Of(1)), wide.Wide{}.Minus(w), wide.Wide{Hi: w.Hi}, wide.Wide{Lo: w.Lo})
	}
	met := map[string]wide.Wide{}
	for _, w := range l {
		text := w.Text()
		if other, is := met[text]; is && other != w {
			t.Fatalf("%v and %v: %s", w, other, text)
		}
		met[text] = w
		if got, is := wide.Read(text); got != w || !is {
			t.Fatalf("Read(%v.Text()) = %v, %v", w, got, is)
		}
	}
	for range 20000 {
		text := []byte(l[r.IntN(len(l))].Text())
		for range 1 + r.IntN(3) {
			text = slices.Insert(text, r.IntN(len(text)+1), "-0123456789"[r.IntN(11)])
		}
		if w, is := wide.Read(string(text)); is && w.Text() != string(text) {
			t.Fatalf("Read(%q) = %v, whose text is %s", text, w, w.Text())
		}
	}
}

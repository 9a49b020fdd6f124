package value_test

import (
	"math"
	"strings"
	"testing"

	"colonnade/api"
	"colonnade/value"
)

// refused fails, unless Read takes s for no value's text.
func refused(t *testing.T, s string) {
	t.Helper()
	if v, e := value.Read(s); !same(v, null) || e != api.ErrValue {
		t.Errorf("Read(%.60q) = %s, %d", s, show(v), e)
	}
}

// thereAndBack fails, unless v has the text s, and s is read as v.
func thereAndBack(t *testing.T, v api.Value, s string) {
	t.Helper()
	if p := value.Print(v); p != s {
		t.Errorf("Print(%s) = %.60q, not %.60q", show(v), p, s)
	}
	if r, e := value.Read(s); !same(r, v) || e != api.OK {
		t.Errorf("Read(%.60q) = %s, %d", s, show(r), e)
	}
}

func TestP5_4PrintAndRead(t *testing.T) {
	for _, x := range []struct {
		v    api.Value
		text string
	}{
		{null, "null"},
		{number(0), "0"}, {number(-12), "-12"}, {number(7), "7"}, {number(100), "100"}, {number(math.MaxInt64), "9223372036854775807"}, {number(math.MinInt64), "-9223372036854775808"}, {number(1<<53 + 1), "9007199254740993"},
		{text(""), `""`}, {text("a\"\\\x00"), `"a\"\\\x00"`}, {text("\xff"), `"\xff"`}, {text("é\n"), `"\xc3\xa9\x0a"`}, {text(" ~\x7f\x1f"), `" ~\x7f\x1f"`}, {text(`\x41`), `"\\x41"`}, {text("null"), `"null"`}, {text("-1"), `"-1"`}, {text("'`/"), "\"'`/\""},
		{float(0), "0.0"}, {float(0.1), "0.1"}, {float(-0.1), "-0.1"}, {float(1), "1.0"}, {float(-1), "-1.0"}, {float(10), "10.0"}, {float(123456.75), "123456.75"}, {float(0.1 + 0.2 - 0.1), "0.2"}, {float(1.0 / 3), "0.3333333333333333"},
		{float(0.00001), "0.00001"}, {float(math.Nextafter(0.00001, 0)), "9.999999999999999e-06"}, {float(1.2345678901234567e-05), "0.000012345678901234568"}, {float(1e-6), "1.0e-06"}, {float(-2.5e-7), "-2.5e-07"}, {float(1e-10), "1.0e-10"}, {float(1e-100), "1.0e-100"},
		{float(1e20), "100000000000000000000.0"}, {float(-123456789012345680000), "-123456789012345680000.0"}, {float(math.Nextafter(1e21, 0)), "999999999999999900000.0"}, {float(1e21), "1.0e+21"}, {float(math.Nextafter(1e21, math.Inf(1))), "1.0000000000000001e+21"}, {float(-1e99), "-1.0e+99"}, {float(1e100), "1.0e+100"},
		{float(math.SmallestNonzeroFloat64), "5.0e-324"}, {float(-2 * math.SmallestNonzeroFloat64), "-1.0e-323"}, {float(0x1p-1022), "2.2250738585072014e-308"}, {float(math.MaxFloat64), "1.7976931348623157e+308"}, {float(-math.MaxFloat64), "-1.7976931348623157e+308"},
		{float(1 << 53), "9007199254740992.0"}, {float(1 << 63), "9223372036854776000.0"}, {float(-1 << 63), "-9223372036854776000.0"},
		{float(0x1p-44), "5.684341886080802e-14"}, {float(1<<50 + 0.25), "1125899906842624.2"}, {float(1<<50 + 0.75), "1125899906842624.8"}, {float(1<<47 + 0.125), "140737488355328.12"}, {float(1<<47 + 0.375), "140737488355328.38"},
		{float(498484681984085570), "498484681984085570.0"}, {float(5.8339553793802237e+23), "5.8339553793802237e+23"}, {float(1e23), "1.0e+23"},
	} {
		thereAndBack(t, x.v, x.text)
	}
}

func TestP5_4PrintAsPlainlyRead(t *testing.T) {
	for _, v := range values() {
		if len(v.Text) < 1000 {
			thereAndBack(t, v, told(v))
		}
	}
}

func TestP5_4EveryByte(t *testing.T) {
	all := ""
	for b := range 256 {
		s := string([]byte{byte(b)})
		all += s
		thereAndBack(t, text(s), told(text(s)))
		thereAndBack(t, text("a"+s+"1"), told(text("a"+s+"1")))
		thereAndBack(t, text(s+s), told(text(s+s)))
	}
	thereAndBack(t, text(all), told(text(all)))
}

func TestP5_4EveryExponent(t *testing.T) {
	for e := -1074; e <= 1023; e++ {
		f := math.Ldexp(1, e)
		for _, g := range []float64{f, math.Nextafter(f, math.MaxFloat64), math.Nextafter(f, 0)} {
			if g != 0 {
				thereAndBack(t, float(g), told(float(g)))
			}
		}
	}
}

func TestP5_4RealsByChance(t *testing.T) {
	r := byChance(4)
	for range 3000 {
		f := anyReal(r)
		thereAndBack(t, float(f), told(float(f)))
	}
	for range 300 {
		f := float64(r.IntN(1<<20)) / 8
		thereAndBack(t, float(f), told(float(f)))
	}
}

func TestP5_4LongTexts(t *testing.T) {
	thereAndBack(t, text(longest), `"`+longest+`"`)
	thereAndBack(t, text(strings.Repeat("\x00", api.MaxText)), `"`+strings.Repeat(`\x00`, api.MaxText)+`"`)
	refused(t, `"`+longest+`x"`)
	refused(t, `"`+longest+`\x00"`)
	refused(t, `"`+longest+`\""`)
	refused(t, `"`+strings.Repeat(`\x00`, api.MaxText+1)+`"`)
	refused(t, strings.Repeat("1", 1<<20))
	refused(t, "1."+strings.Repeat("0", 1<<20))
	refused(t, strings.Repeat(`\`, 1<<20))
	refused(t, strings.Repeat(`"`, 1<<20))
	refused(t, `"`+strings.Repeat(`\`, 1<<20))
}

func TestP5_4PrintOfWhatMayNotBe(t *testing.T) {
	for _, v := range notValues() {
		if s := value.Print(v); s != "" {
			t.Errorf("Print(%s) = %.40q", show(v), s)
		}
	}
}

func TestP5_4ReadRefuses(t *testing.T) {
	for _, s := range []string{
		"", " ", "\x00", "-", "+", ".", "e", "x",
		"Null", "NULL", "nul", "nulll", " null", "null ", "null\x00", "nil",
		"007", "00", "01", "-0", "-00", "-01", "+0", "+1", "--1", "1-", "1 ", " 1", "1\n", "1_000", "0x10", "0b1", "0o7", "1,000", "9223372036854775808", "-9223372036854775809", "99999999999999999999", "١",
		"1.", ".5", "-.5", "-1.", "1.50", "1.00", "01.0", "00.5", "-0.0", "+1.0", "0.00", "1.0.0", "1..0", "1.0 ", " 1.0", "1.0\x00", "1_0.0", "0x1p-2", "0x1.8p1", "1.5f",
		"1e5", "1e21", "1.e21", "1.0e21", "1.0e+5", "1.0e+05", "1.0e+20", "1.0e-05", "1.0e-5", "1.0e-6", "1.0e-006", "1.0e+021", "1.0e+", "1.0e", "1.0e-", "1.0E+21", "1e+21", "10.0e+20", "10.0e+21", "0.1e+22", "1.00e+21", "1.50e+21", "1.0e++21", "1.0e+21 ", "0.0e+00", "0.0e+21", "-1e+21", "1000000000000000000000.0", "0.000001", "0.0000010",
		"1.7976931348623158e+308", "1.7976931348623159e+308", "1.8e+308", "1.0e+309", "1.0e+400", "-1.0e+309", "1.0e+99999999999999999999", "2.0e-324", "1.0e-324", "4.0e-324", "4.9e-324", "4.9406564584124654e-324", "1.0e-400", "1.0e-99999999999999999999",
		"0.30000000000000001", "0.10000000000000001", "9007199254740993.0", "5.6843418860808015e-14", "9223372036854775808.0", "1125899906842624.3", "1125899906842624.25", "1125899906842624.7", "100000000000000000001.0",
		"inf", "Inf", "+Inf", "-Inf", "infinity", "-infinity", "nan", "NaN", "-nan",
		`"`, `"a`, `a"`, `a`, `"""`, `"a"b"`, `"a""`, `""a`, `"a" `, ` "a"`, `"a"` + "\x00", `""""`, "''", "'a'", "``", "`a`",
		`"\"`, `"\\\"`, `"\`, `"\x`, `"\x"`, `"\x0"`, `"\x0`, `"\x00`, `"\x000`, `"\x41"`, `"\x22"`, `"\x5c"`, `"\x20"`, `"\x7e"`, `"\xFF"`, `"\xfF"`, `"\xFf"`, `"\X00"`, `"\xg0"`, `"\x0g"`, `"\x+1"`, `"\x 1"`, `"\x_1"`, `"\n"`, `"\t"`, `"\0"`, `"\000"`, `"\u0041"`, `"\a"`, `"\'"`, `"\/"`, `"\ "`,
		"\"\n\"", "\"\x00\"", "\"\x1f\"", "\"\x7f\"", "\"\x80\"", "\"\xff\"", "\"é\"",
	} {
		refused(t, s)
		if _, is := read(s); is {
			t.Errorf("the plain reading takes %s", s)
		}
	}
}

// asPlainlyRead fails, unless Read answers of s what a plain reading of the forms does.
func asPlainlyRead(t *testing.T, s string) {
	t.Helper()
	want, is := read(s)
	v, e := value.Read(s)
	if !same(v, want) || is != (e == api.OK) || !is && e != api.ErrValue {
		t.Fatalf("Read(%.60q) = %s, %d, not %s", s, show(v), e, show(want))
	}
	if is && value.Print(v) != s {
		t.Fatalf("Read takes %.60q, and Print writes %.60q", s, value.Print(v))
	}
}

// signs are bytes that texts of values are made of, and some beside them.
const signs = "\"\\x0123456789abcdefFEnul-+.e _\x00\x7f\xff"

func TestP5_4ReadOfWhatIsNearlyATextOfAValue(t *testing.T) {
	var l []string
	for _, v := range values() {
		if len(v.Text) < 1000 {
			l = append(l, told(v))
		}
	}
	for _, s := range l {
		for i := range len(s) + 1 {
			asPlainlyRead(t, s[:i])
			asPlainlyRead(t, s[i:])
			for _, b := range []byte(signs) {
				asPlainlyRead(t, s[:i]+string([]byte{b})+s[i:])
				if i < len(s) {
					asPlainlyRead(t, s[:i]+string([]byte{b})+s[i+1:])
				}
			}
			if i < len(s) {
				asPlainlyRead(t, s[:i]+s[i+1:])
			}
		}
	}
}

func TestP5_4ReadOfAnything(t *testing.T) {
	r := byChance(5)
	for range 200000 {
		s := make([]byte, r.IntN(9))
		for i := range s {
			s[i] = signs[r.IntN(len(signs))]
		}
		asPlainlyRead(t, string(s))
		asPlainlyRead(t, `"`+string(s)+`"`)
	}
}

func TestP5_8ThereAndBack(t *testing.T) {
	seen := map[string]api.Value{}
	for _, v := range values() {
		s := value.Print(v)
		if w, is := seen[s]; is && !same(v, w) {
			t.Errorf("%s and %s have one text", show(v), show(w))
		}
		seen[s] = v
		if r, e := value.Read(s); !same(r, v) || e != api.OK {
			t.Errorf("Read of Print of %s = %s, %d", show(v), show(r), e)
		}
	}
	r := byChance(8)
	for range 200000 {
		b := make([]byte, r.IntN(12))
		for i := range b {
			b[i] = byte(r.UintN(256))
		}
		for _, v := range []api.Value{number(int64(r.Uint64()) >> r.IntN(64)), float(anyReal(r)), text(string(b))} {
			if w, e := value.Read(value.Print(v)); !same(v, w) || e != api.OK {
				t.Fatalf("Read(%s) = %v, %d, not %v", value.Print(v), w, e, v)
			}
		}
	}
}

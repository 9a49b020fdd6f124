package dict_test

import (
	"fmt"
	"math"
	"slices"
	"strings"
	"testing"

	"colonnade/api"
	"colonnade/dict"
)

func mustPutInts(t *testing.T, l []int64, want []byte) {
	t.Helper()
	if got, e := dict.PutInts(l); e != api.OK || !slices.Equal(got, want) {
		t.Errorf("PutInts of %d numbers = % X, %d; want % X", len(l), got, e, want)
	}
}

func mustPutTexts(t *testing.T, l []string, want []byte) {
	t.Helper()
	if got, e := dict.PutTexts(l); e != api.OK || !slices.Equal(got, want) {
		t.Errorf("PutTexts of %d texts = % X, %d; want % X", len(l), got, e, want)
	}
}

func mustNotPutInts(t *testing.T, l []int64, want api.Errno) {
	t.Helper()
	if got, e := dict.PutInts(l); e != want || len(got) != 0 {
		t.Errorf("PutInts of %d numbers: %d bytes, %d; want %d", len(l), len(got), e, want)
	}
}

func mustNotPutTexts(t *testing.T, l []string, want api.Errno) {
	t.Helper()
	if got, e := dict.PutTexts(l); e != want || len(got) != 0 {
		t.Errorf("PutTexts of %d texts: %d bytes, %d; want %d", len(l), len(got), e, want)
	}
}

func mustInts(t *testing.T, b []byte, n int, keys []int64, width int, codes []byte, e api.Errno) {
	t.Helper()
	k, w, c, f := dict.Ints(b, n)
	if !slices.Equal(k, keys) || w != width || !slices.Equal(c, codes) || f != e {
		t.Errorf("Ints of %d bytes with n %d = %v, %d, % X, %d; want %v, %d, % X, %d\n% X", len(b), n, k, w, c, f, keys, width, codes, e, b)
	}
}

func mustTexts(t *testing.T, b []byte, n int, keys []string, width int, codes []byte, e api.Errno) {
	t.Helper()
	k, w, c, f := dict.Texts(b, n)
	if !slices.Equal(k, keys) || w != width || !slices.Equal(c, codes) || f != e {
		t.Errorf("Texts of %d bytes with n %d = %q, %d, % X, %d; want %q, %d, % X, %d\n% X", len(b), n, k, w, c, f, keys, width, codes, e, b)
	}
}

func mustNotInts(t *testing.T, b []byte, n int, e api.Errno) {
	t.Helper()
	mustInts(t, b, n, nil, 0, nil, e)
}

func mustNotTexts(t *testing.T, b []byte, n int, e api.Errno) {
	t.Helper()
	mustTexts(t, b, n, nil, 0, nil, e)
}

// readAsPlain holds Ints and Texts of some bytes against the plain readings; it answers how many of the two took them.
func readAsPlain(t *testing.T, b []byte, n int) int {
	t.Helper()
	ints, w, codes, e := plainRead(b, n, guessInts, formOfInts)
	mustInts(t, b, n, ints, w, codes, e)
	texts, w, codes, f := plainRead(b, n, guessTexts, formOfTexts)
	mustTexts(t, b, n, texts, w, codes, f)
	taken := 0
	for _, x := range []api.Errno{e, f} {
		if x == api.OK {
			taken++
		}
	}
	return taken
}

func TestP9_3PutInts(t *testing.T) {
	mustPutInts(t, []int64{}, []byte{0})
	mustPutInts(t, []int64{-2}, []byte{1, 254, 255, 255, 255, 255, 255, 255, 255})
	mustPutInts(t, []int64{5, 1, 3, 1, 5}, join([]byte{3}, eights(1, 3, 5), []byte{2 | 0<<2 | 1<<4 | 0<<6, 2}))
	mustPutInts(t, []int64{math.MaxInt64, math.MinInt64}, []byte{2, 0, 0, 0, 0, 0, 0, 0, 128, 255, 255, 255, 255, 255, 255, 255, 127, 1})
	r := byChance(4)
	for n := range 300 {
		l := someInts(r, n, 1+r.IntN(n+1))
		mustPutInts(t, l, formOfInts(l))
	}
}

func TestP9_3PutTexts(t *testing.T) {
	mustPutTexts(t, nil, []byte{0, 0, 0, 0, 0})
	mustPutTexts(t, []string{""}, []byte{1, 0, 0, 0, 0, 0, 0, 0, 0})
	mustPutTexts(t, []string{"b", "", "b"}, []byte{2, 0, 0, 0, 0, 0, 0, 0, 0, 1, 0, 0, 0, 'b', 5})
	mustPutTexts(t, []string{"ab", "a"}, []byte{2, 0, 0, 0, 0, 1, 0, 0, 0, 3, 0, 0, 0, 'a', 'a', 'b', 1})
	r := byChance(5)
	for n := range 300 {
		l := someTexts(r, n, 1+r.IntN(n+1))
		mustPutTexts(t, l, formOfTexts(l))
	}
}

// TestP9_3Widths: as many keys as a width holds, one fewer and one more; the number of keys takes more than one byte from 128 on.
func TestP9_3Widths(t *testing.T) {
	for w := range 11 {
		for _, n := range []int{1<<w - 1, 1 << w, 1<<w + 1} {
			var ints []int64
			var texts []string
			for i := range n {
				ints = append(ints, int64(i)*-3)
				texts = append(texts, fmt.Sprint(i))
			}
			mustPutInts(t, ints, formOfInts(ints))
			mustPutTexts(t, texts, formOfTexts(texts))
			b, _ := dict.PutInts(ints)
			if _, got, codes, e := dict.Ints(b, n); got != plainWidth(n) || e != api.OK || len(codes) != (n*got+7)/8 {
				t.Errorf("of %d keys: width %d, %d bytes of codes, %d", n, got, len(codes), e)
			}
		}
	}
}

// TestP9_3MaxDict: just MaxDict keys, and one more.
func TestP9_3MaxDict(t *testing.T) {
	var ints []int64
	var texts []string
	for i := range api.MaxDict + 1 {
		ints = append(ints, int64(api.MaxDict-i))
		texts = append(texts, fmt.Sprint(i))
	}
	mustNotPutInts(t, ints, api.ErrUnfit)
	mustNotPutTexts(t, texts, api.ErrUnfit)
	mustNotPutTexts(t, slices.Concat(texts[:api.MaxDict], texts), api.ErrUnfit)

	l := slices.Concat(ints[:api.MaxDict], ints[:api.MaxDict])
	b, e := dict.PutInts(l)
	if want := 3 + 8*api.MaxDict + 2*len(l); e != api.OK || len(b) != want || !slices.Equal(b[:3], []byte{128, 128, 4}) {
		t.Fatalf("PutInts of MaxDict keys: %d bytes, %d; want %d", len(b), e, want)
	}
	keys, w, codes, e := dict.Ints(b, len(l))
	if len(keys) != api.MaxDict || w != 16 || len(codes) != 2*len(l) || e != api.OK {
		t.Fatalf("Ints of MaxDict keys: %d keys, width %d, %d bytes, %d", len(keys), w, len(codes), e)
	}
	for i, v := range l {
		if c := int(codes[2*i]) + 256*int(codes[2*i+1]); keys[c] != v {
			t.Fatalf("value %d: code %d, key %d", v, c, keys[c])
		}
	}
	b, e = dict.PutTexts(texts[:api.MaxDict])
	if names, w, _, f := dict.Texts(b, api.MaxDict); e != api.OK || f != api.OK || w != 16 || !slices.Equal(names, slices.Sorted(slices.Values(texts[:api.MaxDict]))) {
		t.Errorf("texts of MaxDict keys: %d keys, width %d, %d, %d", len(names), w, e, f)
	}
}

// TestP9_4AboveMaxDict: a form of one key more, laid by hand, is none, whatever stands behind the number.
func TestP9_4AboveMaxDict(t *testing.T) {
	const n = api.MaxDict + 1
	ints, codes := make([]int64, n), make([]uint32, n)
	texts := make([]string, n)
	for i := range n {
		ints[i], codes[i], texts[i] = int64(i), uint32(i), fmt.Sprintf("%06d", i)
	}
	mustNotInts(t, join(plainShort(n), intKeys(ints), plainLanes(codes, 17)), n, api.ErrDict)
	mustNotTexts(t, join(plainShort(n), textKeys(texts), plainLanes(codes, 17)), n, api.ErrDict)
	mustNotInts(t, join(plainShort(n), intKeys(ints), plainLanes(codes, 16)), n, api.ErrDict)
	if _, _, _, e := dict.Ints(join(plainShort(n-1), intKeys(ints[1:]), plainLanes(codes[:n-1], 16)), n-1); e != api.OK {
		t.Errorf("MaxDict keys: %d", e)
	}
}

// TestP9_3MaxRows: just MaxRows values, and one more; that there are too many values is asked ahead of the keys.
func TestP9_3MaxRows(t *testing.T) {
	if testing.Short() {
		t.Skip("has MaxRows values")
	}
	ints := make([]int64, api.MaxRows+1)
	mustNotPutInts(t, ints, api.ErrLarge)
	mustPutInts(t, ints[:api.MaxRows], join([]byte{1}, eights(0)))
	mustInts(t, join([]byte{1}, eights(0)), api.MaxRows, []int64{0}, 0, nil, api.OK)
	mustNotInts(t, join([]byte{1}, eights(0)), api.MaxRows+1, api.ErrLarge)
	for i := range ints {
		ints[i] = int64(i)
	}
	mustNotPutInts(t, ints, api.ErrLarge)
	mustNotPutInts(t, ints[:api.MaxRows], api.ErrUnfit)
	for i := range ints {
		ints[i] = int64(i % 3)
	}
	b, e := dict.PutInts(ints[:api.MaxRows])
	if keys, w, codes, f := dict.Ints(b, api.MaxRows); e != api.OK || f != api.OK || w != 2 || len(codes) != api.MaxRows/4 || !slices.Equal(keys, []int64{0, 1, 2}) {
		t.Errorf("three keys: %v, %d, %d bytes, %d, %d", keys, w, len(codes), e, f)
	}
	mustNotInts(t, b[:len(b)-1], api.MaxRows, api.ErrDict)

	texts := make([]string, api.MaxRows+1)
	mustNotPutTexts(t, texts, api.ErrLarge)
	mustPutTexts(t, texts[:api.MaxRows], []byte{1, 0, 0, 0, 0, 0, 0, 0, 0})
	texts[7] = strings.Repeat("x", api.MaxText+1)
	mustNotPutTexts(t, texts, api.ErrLarge)
}

// TestP9_3LongTexts: a text of MaxText bytes may be a key, and one of more may not; that there are too many keys is asked ahead of that.
func TestP9_3LongTexts(t *testing.T) {
	long := strings.Repeat("x", api.MaxText)
	l := []string{"y", long, "y"}
	mustPutTexts(t, l, formOfTexts(l))
	mustNotPutTexts(t, []string{long + "x"}, api.ErrLarge)
	mustNotPutTexts(t, []string{"a", "b", long + "x", "a"}, api.ErrLarge)
	many := []string{long + "x"}
	for i := range api.MaxDict - 1 {
		many = append(many, fmt.Sprint(i))
	}
	mustNotPutTexts(t, many, api.ErrLarge)
	mustNotPutTexts(t, append(many, "more"), api.ErrUnfit)
	mustNotPutTexts(t, append([]string{"more"}, many...), api.ErrUnfit)

	mustTexts(t, formOfTexts(l), 3, []string{long, "y"}, 1, []byte{5}, api.OK)
	mustNotTexts(t, formOfTexts([]string{long + "x"}), 1, api.ErrDict)
	mustNotTexts(t, formOfTexts([]string{"y", long + "x"}), 2, api.ErrDict)
}

func TestP9_4Read(t *testing.T) {
	r := byChance(6)
	for n := range 200 {
		ints := someInts(r, n, 1+r.IntN(n+1))
		keys, codes := plainBuild(ints)
		w := plainWidth(len(keys))
		mustInts(t, formOfInts(ints), n, keys, w, plainLanes(codes, w), api.OK)
		texts := someTexts(r, n, 1+r.IntN(n+1))
		names, codes := plainBuild(texts)
		w = plainWidth(len(names))
		mustTexts(t, formOfTexts(texts), n, names, w, plainLanes(codes, w), api.OK)
	}
	mustInts(t, []byte{0}, 0, nil, 0, nil, api.OK)
	mustTexts(t, []byte{0, 0, 0, 0, 0}, 0, nil, 0, nil, api.OK)
}

// TestP9_4Counts: how many keys there are, in forms that are not the short one, of none, of more than MaxDict, of more than the bytes can hold.
func TestP9_4Counts(t *testing.T) {
	one, none := eights(9), []byte{0, 0, 0, 0}
	mustNotInts(t, nil, 0, api.ErrDict)
	mustNotTexts(t, nil, 0, api.ErrDict)
	for _, front := range [][]byte{{128}, {128, 0}, {128, 128, 0}, {128, 128, 128, 128, 128, 128, 128, 128, 128, 2}} {
		mustNotInts(t, front, 0, api.ErrDict)
		mustNotTexts(t, join(front, none), 0, api.ErrDict)
	}
	mustNotInts(t, join([]byte{129, 0}, one), 3, api.ErrDict)
	mustInts(t, join([]byte{1}, one), 3, []int64{9}, 0, nil, api.OK)
	mustNotInts(t, []byte{0}, 1, api.ErrDict)
	mustNotInts(t, []byte{0}, api.MaxRows, api.ErrDict)
	mustNotTexts(t, join([]byte{0}, none), 1, api.ErrDict)
	mustNotTexts(t, []byte{0}, 0, api.ErrDict)
	mustNotInts(t, []byte{1}, 1, api.ErrDict)
	mustNotInts(t, []byte{1}, 0, api.ErrDict)
	for _, count := range []uint64{2, 3, 127, 128, 65535, 65536, 65537, 1 << 24, 1 << 31, 1 << 32, 1<<32 + 1, 1 << 61, 1 << 62, 1 << 63, math.MaxUint64 - 7, math.MaxUint64} {
		front := []byte{}
		for v := count; ; v /= 128 {
			if v < 128 {
				front = append(front, byte(v))
				break
			}
			front = append(front, byte(v%128+128))
		}
		for _, n := range []int{0, 1, 2, 3, 8, 65536, 65537, api.MaxRows} {
			mustNotInts(t, front, n, api.ErrDict)
			mustNotTexts(t, front, n, api.ErrDict)
			mustNotInts(t, join(front, one), n, api.ErrDict)
			mustNotTexts(t, join(front, none, none, one), n, api.ErrDict)
		}
	}
}

// TestP9_4Keys: keys that do not rise, and keys that are alike.
func TestP9_4Keys(t *testing.T) {
	codes := []byte{0 | 1<<2 | 2<<4}
	mustInts(t, join([]byte{3}, eights(1, 2, 3), codes), 3, []int64{1, 2, 3}, 2, codes, api.OK)
	for _, l := range [][]byte{{1, 1, 3}, {1, 3, 3}, {2, 1, 3}, {1, 3, 2}, {3, 2, 1}, {2, 2, 2}} {
		mustNotInts(t, join([]byte{3}, eights(l...), codes), 3, api.ErrDict)
	}
	mustInts(t, join([]byte{2}, intKeys([]int64{-1, 0}), []byte{1}), 2, []int64{-1, 0}, 1, []byte{1}, api.OK)
	mustNotInts(t, join([]byte{2}, intKeys([]int64{0, -1}), []byte{1}), 2, api.ErrDict)
	mustTexts(t, join([]byte{2}, textKeys([]string{"", "a"}), []byte{1}), 2, []string{"", "a"}, 1, []byte{1}, api.OK)
	for _, l := range [][]string{{"a", ""}, {"", ""}, {"a", "a"}, {"ab", "a"}, {"b", "ab"}, {"a", "B"}, {"\xff", "\x7f"}} {
		mustNotTexts(t, join([]byte{2}, textKeys(l), []byte{1}), 2, api.ErrDict)
	}
}

// TestP9_4KeyBytes: what layer 8 does not read is no key.
func TestP9_4KeyBytes(t *testing.T) {
	mustTexts(t, []byte{1, 0, 0, 0, 0, 1, 0, 0, 0, 'x'}, 2, []string{"x"}, 0, nil, api.OK)
	mustNotTexts(t, []byte{1, 1, 0, 0, 0, 1, 0, 0, 0, 'x'}, 2, api.ErrDict)
	mustNotTexts(t, []byte{1, 0, 0, 0, 0, 2, 0, 0, 0, 'x'}, 2, api.ErrDict)
	mustNotTexts(t, []byte{1, 0, 0, 0, 0, 0, 0, 0, 0, 'x'}, 2, api.ErrDict)
	mustNotTexts(t, []byte{2, 0, 0, 0, 0, 2, 0, 0, 0, 1, 0, 0, 0, 'x', 'y', 1}, 2, api.ErrDict)
}

// TestP9_4Codes: a key without a code, a code without a key, bits behind the last code.
func TestP9_4Codes(t *testing.T) {
	three := join([]byte{3}, eights(1, 2, 3))
	for code := range 256 {
		readAsPlain(t, append(slices.Clone(three), byte(code)), 3)
		readAsPlain(t, append(slices.Clone(three), byte(code)), 4)
	}
	mustNotInts(t, append(slices.Clone(three), 0|1<<2|1<<4), 3, api.ErrDict)
	mustNotInts(t, append(slices.Clone(three), 0|1<<2|3<<4), 3, api.ErrDict)
	mustNotInts(t, append(slices.Clone(three), 0|1<<2|2<<4|3<<6), 4, api.ErrDict)
	mustNotInts(t, append(slices.Clone(three), 0|1<<2|2<<4|1<<6), 3, api.ErrDict)
	mustNotInts(t, append(slices.Clone(three), 0|1<<2|2<<4|1<<7), 3, api.ErrDict)
	mustNotInts(t, three, 2, api.ErrDict)
	mustNotInts(t, append(slices.Clone(three), 0|1<<2), 2, api.ErrDict)
	mustNotInts(t, append(slices.Clone(three), 0), 0, api.ErrDict)
}

// TestP9_4OneByteFewerOrMore: every beginning of a form, and a byte behind it.
func TestP9_4OneByteFewerOrMore(t *testing.T) {
	forms := []struct {
		ints  []int64
		texts []string
	}{
		{nil, nil}, {[]int64{9}, []string{"x"}}, {[]int64{9, 9}, []string{"", ""}}, {[]int64{9, 8, 7}, []string{"abc", "b", "c"}},
		{someInts(byChance(7), 40, 30), someTexts(byChance(7), 40, 30)},
	}
	for _, f := range forms {
		n := len(f.ints)
		ints, texts := formOfInts(f.ints), formOfTexts(f.texts)
		for i := range ints {
			mustNotInts(t, ints[:i], n, api.ErrDict)
		}
		for i := range texts {
			mustNotTexts(t, texts[:i], n, api.ErrDict)
		}
		for _, more := range []byte{0, 1, 255} {
			mustNotInts(t, append(slices.Clone(ints), more), n, api.ErrDict)
			mustNotTexts(t, append(slices.Clone(texts), more), n, api.ErrDict)
		}
	}
}

// TestP9_4EveryByte: every byte of some forms made every other one, and every number of values near by.
func TestP9_4EveryByte(t *testing.T) {
	r := byChance(8)
	taken := 0
	for _, n := range []int{0, 1, 2, 3, 4, 5, 9} {
		for _, b := range [][]byte{formOfInts(someInts(r, n, n)), formOfTexts(someTexts(r, n, n))} {
			for at := range b {
				was := b[at]
				for v := range 256 {
					b[at] = byte(v)
					taken += readAsPlain(t, b, n)
				}
				b[at] = was
			}
			for m := range 2*n + 9 {
				taken += readAsPlain(t, b, m)
			}
		}
	}
	if taken < 1000 {
		t.Errorf("only %d of the bytes were forms", taken)
	}
}

// TestP9_4OrderOfErrors: what n may be is asked ahead of the bytes, whatever they are.
func TestP9_4OrderOfErrors(t *testing.T) {
	for _, b := range [][]byte{nil, {0}, {0, 0, 0, 0, 0}, {128}, {255, 255}, join([]byte{1}, eights(9)), join([]byte{2}, eights(3, 7), []byte{5})} {
		for _, n := range edgeCounts() {
			switch {
			case n < 0:
				mustNotInts(t, b, n, api.ErrArg)
				mustNotTexts(t, b, n, api.ErrArg)
			case n > api.MaxRows:
				mustNotInts(t, b, n, api.ErrLarge)
				mustNotTexts(t, b, n, api.ErrLarge)
			case n < 100:
				readAsPlain(t, b, n)
			}
		}
	}
	mustNotInts(t, nil, api.MaxRows, api.ErrDict)
	mustNotTexts(t, nil, api.MaxRows, api.ErrDict)
}

package dict_test

import (
	"cmp"
	"math"
	"slices"
	"testing"

	"colonnade/api"
	"colonnade/dict"
)

// orderIsKept holds the comparisons of the values against those of their codes.
func orderIsKept[T cmp.Ordered](t *testing.T, l, asked []T) {
	t.Helper()
	keys, codes := dict.Build(l)
	for _, c := range asked {
		floor := dict.Floor(keys, c)
		at, is := dict.Find(keys, c)
		for i, v := range l {
			below, found := int(codes[i]) < floor, is && int(codes[i]) == at
			switch cmp.Compare(v, c) {
			case -1:
				if !below || found {
					t.Fatalf("%v is below %v: code %d, Floor %d, Find %d %v", v, c, codes[i], floor, at, is)
				}
			case 0:
				if below || !found {
					t.Fatalf("%v is alike to %v: code %d, Floor %d, Find %d %v", v, c, codes[i], floor, at, is)
				}
			default:
				if below || found {
					t.Fatalf("%v is above %v: code %d, Floor %d, Find %d %v", v, c, codes[i], floor, at, is)
				}
			}
		}
	}
	for i, v := range l {
		for j, w := range l {
			if cmp.Compare(v, w) != cmp.Compare(codes[i], codes[j]) {
				t.Fatalf("%v and %v have the codes %d and %d", v, w, codes[i], codes[j])
			}
		}
	}
}

func TestP9_5OrderIsKept(t *testing.T) {
	r := byChance(9)
	for n := range 60 {
		ints := someInts(r, n, n)
		orderIsKept(t, ints, slices.Concat(ints, someInts(r, 20, 20), []int64{math.MinInt64, math.MaxInt64}))
		texts := someTexts(r, n, n)
		orderIsKept(t, texts, slices.Concat(texts, someTexts(r, 20, 20), []string{"", "\xff\xff"}))
	}
	odd := []float64{0, math.Copysign(0, -1), math.NaN(), noNumber(3), math.Inf(1), math.Inf(-1), 1, -1}
	for range 200 {
		orderIsKept(t, pick(r, r.IntN(9), odd), odd)
	}
}

// keysAreCodes says of what Build answers that each code's key is alike to its value, each key is some code's, and the keys rise.
func keysAreCodes[T cmp.Ordered](t *testing.T, l []T) {
	t.Helper()
	keys, codes := dict.Build(l)
	if len(codes) != len(l) {
		t.Fatalf("%d codes of %d values", len(codes), len(l))
	}
	met := map[uint32]int{}
	for i, v := range l {
		if cmp.Compare(keys[codes[i]], v) != 0 {
			t.Fatalf("the key of %v is %v", v, keys[codes[i]])
		}
		met[codes[i]]++
	}
	if len(met) != len(keys) {
		t.Fatalf("%d of %d keys have a code", len(met), len(keys))
	}
	for i := range len(keys) - 1 {
		if cmp.Compare(keys[i], keys[i+1]) >= 0 {
			t.Fatalf("%v stands ahead of %v", keys[i], keys[i+1])
		}
	}
}

func TestP9_6KeysAndCodes(t *testing.T) {
	r := byChance(10)
	for n := range 200 {
		keysAreCodes(t, someInts(r, n, n))
		keysAreCodes(t, someTexts(r, n, n))
	}
	keysAreCodes(t, []float64{1, math.NaN(), 0, math.Copysign(0, -1), math.NaN(), -1})
}

// told is the list that keys and codes say.
func told[T any](keys []T, width int, codes []byte, n int) []T {
	var l []T
	for i := range n {
		l = append(l, keys[plainLane(codes, width, i)])
	}
	return l
}

func TestP9_7ThereAndBack(t *testing.T) {
	r := byChance(11)
	for n := range 400 {
		ints := someInts(r, n, 1+r.IntN(n+1))
		b, e := dict.PutInts(ints)
		keys, w, codes, f := dict.Ints(b, n)
		if e != api.OK || f != api.OK || !slices.Equal(told(keys, w, codes, n), ints) {
			t.Fatalf("of %v: %d, %d", ints, e, f)
		}
		texts := someTexts(r, n, 1+r.IntN(n+1))
		b, e = dict.PutTexts(texts)
		names, w, codes, f := dict.Texts(b, n)
		if e != api.OK || f != api.OK || !slices.Equal(told(names, w, codes, n), texts) {
			t.Fatalf("of %q: %d, %d", texts, e, f)
		}
	}
}

// TestP9_7OneForm: whatever bytes are taken, Put writes again.
func TestP9_7OneForm(t *testing.T) {
	r := byChance(12)
	taken := 0
	for range 30000 {
		n := r.IntN(5)
		b := formOfInts(someInts(r, n, n))
		if r.IntN(2) == 0 {
			b = formOfTexts(someTexts(r, n, n))
		}
		for range r.IntN(3) {
			b[r.IntN(len(b))] = byte(r.Uint32()) >> r.IntN(8)
		}
		n = max(n+r.IntN(3)-1, 0)
		if keys, w, codes, e := dict.Ints(b, n); e == api.OK {
			taken++
			mustPutInts(t, told(keys, w, codes, n), b)
		}
		if keys, w, codes, e := dict.Texts(b, n); e == api.OK {
			taken++
			mustPutTexts(t, told(keys, w, codes, n), b)
		}
	}
	if taken < 5000 {
		t.Errorf("only %d of the bytes were forms", taken)
	}
}

// TestP9_8OneValue: however often it stands there, its form is as long.
func TestP9_8OneValue(t *testing.T) {
	for _, n := range []int{1, 2, 3, 7, 8, 9, 1000, 65536, 65537} {
		mustPutInts(t, slices.Repeat([]int64{-5}, n), []byte{1, 251, 255, 255, 255, 255, 255, 255, 255})
		mustInts(t, []byte{1, 251, 255, 255, 255, 255, 255, 255, 255}, n, []int64{-5}, 0, nil, api.OK)
		mustPutTexts(t, slices.Repeat([]string{"no"}, n), []byte{1, 0, 0, 0, 0, 2, 0, 0, 0, 'n', 'o'})
		mustTexts(t, []byte{1, 0, 0, 0, 0, 2, 0, 0, 0, 'n', 'o'}, n, []string{"no"}, 0, nil, api.OK)
		mustNotInts(t, []byte{1, 251, 255, 255, 255, 255, 255, 255, 255, 0}, n, api.ErrDict)
	}
}

// TestW0EveryCall: no bytes and no numbers make a call panic, and each answers as the plain one.
func TestW0EveryCall(t *testing.T) {
	r := byChance(13)
	for range 400 {
		b := make([]byte, r.IntN(40))
		for i := range b {
			b[i] = byte(r.Uint32()) & byte(r.Uint32()) & byte(r.Uint32()) & byte(r.Uint32())
		}
		for _, n := range edgeCounts() {
			if n > 100 && n <= api.MaxRows && len(b) > 0 && b[0] == 1 {
				continue // the plain reading would write out as many values
			}
			readAsPlain(t, b, n)
		}
	}
}

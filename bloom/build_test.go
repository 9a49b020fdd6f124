package bloom_test

import (
	"bytes"
	"slices"
	"testing"

	"colonnade/api"
	"colonnade/bloom"
	"colonnade/check"
)

func mustBuild(t *testing.T, size int, l []api.Value, want []byte) {
	t.Helper()
	if got, e := bloom.Build(size, l); e != api.OK || !bytes.Equal(got, want) {
		t.Errorf("Build(%d, %s) = %s, %d; want %s", size, brief(l), brief(got), e, brief(want))
	}
}

func mustNotBuild(t *testing.T, size int, l []api.Value, want api.Errno) {
	t.Helper()
	if got, e := bloom.Build(size, l); e != want || len(got) != 0 {
		t.Errorf("Build(%d, %s) = %s, %d; want %d", size, brief(l), brief(got), e, want)
	}
}

// TestP13_1WrittenOut: filters whose bytes were worked out apart from this program.
func TestP13_1WrittenOut(t *testing.T) {
	for _, x := range []struct {
		v    api.Value
		want []byte
	}{
		{num(5), []byte{0, 30, 0, 0, 0, 0, 0, 0}},
		{num(0), []byte{8, 2, 0, 0, 64, 16, 0, 0}},
		{num(-1), []byte{0, 0, 32, 132, 16, 0, 0, 0}},
		{num(256), []byte{128, 0, 32, 0, 0, 64, 0, 16}},
		{num(-9223372036854775808), []byte{8, 2, 0, 0, 64, 16, 0, 0}},
		{num(9223372036854775807), []byte{0, 0, 32, 132, 16, 0, 0, 0}},
		{word(""), []byte{32, 0, 4, 128, 0, 16, 0, 0}},
		{word("a"), []byte{2, 0, 0, 0, 0, 16, 8, 4}},
		{word("\x00"), []byte{64, 32, 16, 0, 0, 0, 0, 128}},
		{word("\xff\x80"), []byte{0, 4, 32, 0, 8, 0, 0, 16}},
		{word("\x05\x00\x00\x00\x00\x00\x00\x00"), []byte{1, 2, 4, 8, 0, 0, 0, 0}},
	} {
		mustBuild(t, 8, list(x.v), x.want)
	}
	mustBuild(t, 8, list(num(5), word("a")), []byte{2, 30, 0, 0, 0, 16, 8, 4})
	mustBuild(t, 16, list(num(5), word("a")), []byte{0, 20, 0, 0, 0, 16, 8, 4, 2, 10, 0, 0, 0, 0, 0, 0})
}

// TestP13_1PlacesWrittenOut: in the greatest filter, where the places lie far apart.
func TestP13_1PlacesWrittenOut(t *testing.T) {
	for _, x := range []struct {
		v    api.Value
		ones []int
	}{
		{num(5), []int{480585, 77066, 197835, 318604}},
		{num(-1), []int{209956, 3167, 320666, 113877}},
		{num(-9223372036854775808), []int{285228, 395017, 504806, 90307}},
		{num(9223372036854775807), []int{265636, 91615, 441882, 267861}},
		{word(""), []int{113477, 359058, 80351, 325932}},
		{word("a"), []int{65068, 143667, 222266, 300865}},
	} {
		want := make([]byte, 65536)
		for _, j := range x.ones {
			want = turned(want, j)
		}
		mustBuild(t, 65536, list(x.v), want)
	}
}

// TestP13_1BitByBit: of each value, in each size, just the bits at the places that layer 6 answers are 1.
func TestP13_1BitByBit(t *testing.T) {
	for _, v := range append(goodValues(), someValues(byChance(1), 60)...) {
		for _, size := range sizes() {
			b, e := bloom.Build(size, list(v))
			places, f := check.Places(check.Hash(plainBytes(v)), 8*size, 4)
			if e != api.OK || f != api.OK || len(b) != size {
				t.Fatalf("Build(%d, %s): %d bytes, %d; Places: %d", size, brief(v), len(b), e, f)
			}
			for j := range 8 * size {
				if plainBit(b, j) != slices.Contains(places, j) {
					t.Fatalf("Build(%d, %s): bit %d is %v, the places are %d", size, brief(v), j, plainBit(b, j), places)
				}
			}
			if !slices.Equal(places, plainPlaces(size, v)) {
				t.Fatalf("places of %s in %d bytes: %d, want %d", brief(v), size, places, plainPlaces(size, v))
			}
		}
	}
}

func TestP13_1NoValues(t *testing.T) {
	for _, size := range sizes() {
		mustBuild(t, size, nil, make([]byte, size))
		mustBuild(t, size, list(), make([]byte, size))
		mustBuild(t, size, list(num(5))[:0], make([]byte, size))
	}
}

func TestP13_1SomeValues(t *testing.T) {
	r := byChance(2)
	for n := range 60 {
		for _, size := range sizes()[:9] {
			l := someValues(r, n)
			mustBuild(t, size, l, plainBuild(size, l))
		}
	}
	for _, size := range sizes() {
		mustBuild(t, size, goodValues(), plainBuild(size, goodValues()))
	}
}

// TestP13_1Kinds: a number and a text of the same bytes have places of their own.
func TestP13_1Kinds(t *testing.T) {
	for _, i := range []int64{0, 1, 5, -1, 1 << 40} {
		n, text := num(i), word(string(plainBytes(num(i))[1:]))
		a, _ := bloom.Build(1024, list(n))
		b, _ := bloom.Build(1024, list(text))
		if bytes.Equal(a, b) || bloom.Has(a, text) || bloom.Has(b, n) {
			t.Errorf("%d and the text of its bytes are not told apart", i)
		}
	}
}

func TestP13_1WrongSize(t *testing.T) {
	for _, size := range wrongSizes() {
		mustNotBuild(t, size, nil, api.ErrBloom)
		mustNotBuild(t, size, list(num(5), word("a")), api.ErrBloom)
	}
}

// TestP13_1WrongValue: whatever stands ahead of it and behind it.
func TestP13_1WrongValue(t *testing.T) {
	for _, v := range wrongValues() {
		for _, size := range []int{8, 64, 65536} {
			mustNotBuild(t, size, list(v), api.ErrValue)
			mustNotBuild(t, size, list(v, num(5)), api.ErrValue)
			mustNotBuild(t, size, list(num(5), word("a"), v), api.ErrValue)
			mustNotBuild(t, size, list(num(5), v, word("a")), api.ErrValue)
			mustNotBuild(t, size, list(v, v), api.ErrValue)
		}
	}
	for _, size := range sizes() {
		mustNotBuild(t, size, wrongValues(), api.ErrValue)
		mustNotBuild(t, size, append(goodValues(), api.Value{}), api.ErrValue)
	}
}

// TestP13_1SizeFirst: of a wrong size and a wrong value the size is told.
func TestP13_1SizeFirst(t *testing.T) {
	for _, size := range wrongSizes() {
		mustNotBuild(t, size, list(api.Value{}), api.ErrBloom)
	}
	for _, v := range wrongValues() {
		for _, size := range []int{-8, 0, 4, 7, 12, 65537, 131072} {
			mustNotBuild(t, size, list(num(5), v), api.ErrBloom)
		}
	}
}

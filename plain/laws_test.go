package plain_test

import (
	"math"
	"math/rand/v2"
	"slices"
	"testing"

	"colonnade/api"
	"colonnade/plain"
)

func TestP8_7IntsThereAndBack(t *testing.T) {
	r := byChance(8)
	for n := range 300 {
		l := someInts(r, n)
		b := plain.PutInts(l)
		mustInts(t, b, n, api.OK, l...)
		for i, v := range l {
			mustIntAt(t, b, i, v, true)
		}
		mustIntAt(t, b, n, 0, false)
	}
	mustInts(t, plain.PutInts(edgeInts()), len(edgeInts()), api.OK, edgeInts()...)
	mustInts(t, plain.PutInts(nil), 0, api.OK)
}

func TestP8_7TextsThereAndBack(t *testing.T) {
	r := byChance(9)
	for n := range 300 {
		l := someTexts(r, n)
		b, e := plain.PutTexts(l)
		if e != api.OK {
			t.Fatalf("PutTexts of %d texts: %d", n, e)
		}
		mustTexts(t, b, n, api.OK, l...)
		for i, s := range l {
			mustTextAt(t, b, n, i, s, true)
		}
		mustTextAt(t, b, n, n, "", false)
	}
}

// TestP8_7IntsWrittenAgain: whatever bytes Ints takes, PutInts writes.
func TestP8_7IntsWrittenAgain(t *testing.T) {
	r := byChance(10)
	for size := range 200 {
		b := make([]byte, size)
		for i := range b {
			b[i] = byte(r.Uint32())
		}
		l, e := plain.Ints(b, size/8)
		if (e == api.OK) != (size%8 == 0) {
			t.Fatalf("%d bytes: %d", size, e)
		}
		if e == api.OK && !slices.Equal(plain.PutInts(l), b) {
			t.Errorf("% X is read as %v, and put as % X", b, l, plain.PutInts(l))
		}
	}
}

// someShelf is bytes that may be texts: ends that mostly rise, and a heap about as long as they say.
func someShelf(r *rand.Rand) ([]byte, int) {
	n, at := r.IntN(4), 0
	ends := []uint32{uint32(r.IntN(8) / 7)}
	for range n {
		at = max(at+r.IntN(5)-r.IntN(8)/7, 0)
		ends = append(ends, uint32(at))
	}
	heap := make([]byte, max(at+r.IntN(8)/7-r.IntN(8)/7, 0))
	for i := range heap {
		heap[i] = byte(r.Uint32())
	}
	return shelf(string(heap), ends...), n
}

// TestP8_7TextsWrittenAgain: whatever bytes Texts takes, PutTexts writes; and it takes those that the plain reading takes.
func TestP8_7TextsWrittenAgain(t *testing.T) {
	r := byChance(11)
	taken := 0
	for range 20000 {
		b, n := someShelf(r)
		l, e := plain.Texts(b, n)
		want, f := plainTexts(b, n)
		if e != f || !slices.Equal(l, want) {
			t.Fatalf("Texts of % X with n %d = %q, %d; want %q, %d", b, n, l, e, want, f)
		}
		if e != api.OK {
			continue
		}
		taken++
		mustPutTexts(t, b, l...)
	}
	if taken < 5000 {
		t.Errorf("only %d of the bytes were texts", taken)
	}
}

func TestP8_8OneBehindTheOther(t *testing.T) {
	r := byChance(12)
	for range 300 {
		a, b := someInts(r, r.IntN(20)), someInts(r, r.IntN(20))
		both := plain.PutInts(slices.Concat(a, b))
		if !slices.Equal(both, slices.Concat(plain.PutInts(a), plain.PutInts(b))) {
			t.Fatalf("PutInts(%v %v) = % X", a, b, both)
		}
	}
}

// TestW0EveryCall: no bytes and no numbers make a call panic, and each answers as the plain one.
func TestW0EveryCall(t *testing.T) {
	r := byChance(13)
	for range 300 {
		b := make([]byte, r.IntN(30))
		for i := range b {
			b[i] = byte(r.Uint32()) & byte(r.Uint32()) & byte(r.Uint32()) & byte(r.Uint32())
		}
		for _, n := range edgeCounts() {
			l, e := plainInts(b, n)
			mustInts(t, b, n, e, l...)
			texts, e := plainTexts(b, n)
			mustTexts(t, b, n, e, texts...)
			v, is := plainIntAt(b, n)
			mustIntAt(t, b, n, v, is)
			for _, i := range []int{math.MinInt, -1, 0, 1, 2, n - 1, n, math.MaxInt} {
				s, is := plainTextAt(b, n, i)
				mustTextAt(t, b, n, i, s, is)
			}
		}
	}
}

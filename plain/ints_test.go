package plain_test

import (
	"math"
	"slices"
	"testing"

	"colonnade/api"
	"colonnade/plain"
)

func mustInts(t *testing.T, b []byte, n int, e api.Errno, want ...int64) {
	t.Helper()
	if got, f := plain.Ints(b, n); !slices.Equal(got, want) || f != e {
		t.Errorf("Ints of %d bytes with n %d = %v, %d; want %v, %d", len(b), n, got, f, want, e)
	}
}

func mustIntAt(t *testing.T, b []byte, i int, want int64, is bool) {
	t.Helper()
	if got, ok := plain.IntAt(b, i); got != want || ok != is {
		t.Errorf("IntAt of %d bytes, %d = %d, %v; want %d, %v", len(b), i, got, ok, want, is)
	}
}

func TestP8_1PutInts(t *testing.T) {
	for _, l := range [][]int64{nil, {}, {0}, {-1}, {math.MinInt64}, {math.MaxInt64}, {-1, 0, -1}, edgeInts(), someInts(byChance(1), 1000)} {
		if got, want := plain.PutInts(l), plainPutInts(l); !slices.Equal(got, want) {
			t.Errorf("PutInts of %d numbers = % X, want % X", len(l), got, want)
		}
	}
	for _, x := range []struct {
		v    int64
		want []byte
	}{
		{0x0102030405060708, []byte{8, 7, 6, 5, 4, 3, 2, 1}},
		{-1, []byte{255, 255, 255, 255, 255, 255, 255, 255}},
		{math.MinInt64, []byte{0, 0, 0, 0, 0, 0, 0, 128}},
		{math.MaxInt64, []byte{255, 255, 255, 255, 255, 255, 255, 127}},
	} {
		if got := plain.PutInts([]int64{x.v}); !slices.Equal(got, x.want) {
			t.Errorf("PutInts(%d) = % X, want % X", x.v, got, x.want)
		}
	}
}

func TestP8_2Ints(t *testing.T) {
	r := byChance(2)
	for n := range 40 {
		b := plainPutInts(someInts(r, n))
		want, _ := plainInts(b, n)
		mustInts(t, b, n, api.OK, want...)
	}
	mustInts(t, nil, 0, api.OK)
	mustInts(t, []byte{}, 0, api.OK)
	mustInts(t, plainPutInts(edgeInts()), len(edgeInts()), api.OK, edgeInts()...)
}

func TestP8_2OneByteFewerOrMore(t *testing.T) {
	for size := range 66 {
		b := make([]byte, size)
		for n := range 10 {
			switch {
			case size < 8*n:
				mustInts(t, b, n, api.ErrShort)
			case size > 8*n:
				mustInts(t, b, n, api.ErrRest)
			default:
				mustInts(t, b, n, api.OK, make([]int64, n)...)
			}
		}
	}
}

// TestP8_2OrderOfErrors: what n may be is asked ahead of the bytes, whatever they are.
func TestP8_2OrderOfErrors(t *testing.T) {
	for _, size := range []int{0, 1, 8, 9} {
		b := make([]byte, size)
		for _, n := range edgeCounts() {
			want, e := plainInts(b, n)
			mustInts(t, b, n, e, want...)
		}
		mustInts(t, b, -1, api.ErrArg)
		mustInts(t, b, math.MinInt, api.ErrArg)
		mustInts(t, b, api.MaxRows, api.ErrShort)
		mustInts(t, b, api.MaxRows+1, api.ErrLarge)
		mustInts(t, b, 1<<61, api.ErrLarge)
	}
}

func TestP8_2MaxRows(t *testing.T) {
	if testing.Short() {
		t.Skip("has MaxRows numbers")
	}
	l := make([]int64, api.MaxRows+1)
	for i := range l {
		l[i] = int64(i) * -0x123456789
	}
	b := plain.PutInts(l)
	if len(b) != 8*len(l) {
		t.Fatalf("PutInts of MaxRows + 1 numbers: %d bytes", len(b))
	}
	mustInts(t, b, api.MaxRows+1, api.ErrLarge)
	mustInts(t, b, api.MaxRows, api.ErrRest)
	most := 8 * api.MaxRows
	mustInts(t, b[:most-1], api.MaxRows, api.ErrShort)
	mustInts(t, b[:most+1], api.MaxRows, api.ErrRest)
	if got, e := plain.Ints(b[:most], api.MaxRows); e != api.OK || !slices.Equal(got, l[:api.MaxRows]) {
		t.Errorf("Ints of MaxRows numbers: %d of them, %d", len(got), e)
	}
	mustIntAt(t, b, api.MaxRows, l[api.MaxRows], true)
}

func TestP8_5IntAt(t *testing.T) {
	l := someInts(byChance(3), 9)
	whole := plainPutInts(l)
	for size := range len(whole) + 1 {
		for i := -3; i < 13; i++ {
			want, is := plainIntAt(whole[:size], i)
			mustIntAt(t, whole[:size], i, want, is)
		}
	}
	mustIntAt(t, whole, 8, l[8], true)
	mustIntAt(t, whole, 9, 0, false)
	mustIntAt(t, whole[:71], 8, 0, false)
	mustIntAt(t, append(whole, 1, 2, 3), 8, l[8], true)
	for i, v := range edgeInts() {
		mustIntAt(t, plainPutInts(edgeInts()), i, v, true)
	}
}

// TestP8_5Beyond: places whose bytes would lie beyond the greatest int are not there, though 8 * i may come round to one that is.
func TestP8_5Beyond(t *testing.T) {
	b := plainPutInts([]int64{5, 6, 7})
	for _, i := range []int{math.MinInt, math.MinInt + 1, -1 << 61, -1<<61 + 1, -1, 3, 1 << 29, 1 << 32, 1 << 60, 1<<60 - 1, 1 << 61, 1<<61 + 1, 1<<61 - 1, 1 << 62, 1<<62 + 2, math.MaxInt - 1, math.MaxInt} {
		mustIntAt(t, b, i, 0, false)
		mustIntAt(t, nil, i, 0, false)
	}
	mustIntAt(t, nil, 0, 0, false)
}

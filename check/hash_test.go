package check_test

import (
	"hash/fnv"
	"math"
	"slices"
	"testing"

	"colonnade/api"
	"colonnade/check"
)

func TestP6_4NoBytes(t *testing.T) {
	for _, b := range [][]byte{nil, {}, make([]byte, 0, 9), []byte("abc")[:0], []byte("abc")[3:]} {
		if got := check.Hash(b); got != 0xCBF29CE484222325 {
			t.Errorf("Hash of no bytes = %X", got)
		}
	}
}

func TestP6_4OneAndTwoBytes(t *testing.T) {
	for i := range 256 {
		if b := []byte{byte(i)}; check.Hash(b) != plainHash(b) {
			t.Errorf("Hash(% X) = %X, want %X", b, check.Hash(b), plainHash(b))
		}
		for j := range 256 {
			if b := []byte{byte(i), byte(j)}; check.Hash(b) != plainHash(b) {
				t.Fatalf("Hash(% X) = %X, want %X", b, check.Hash(b), plainHash(b))
			}
		}
	}
}

func TestP6_4Lengths(t *testing.T) {
	r := byChance(7)
	for n := range 400 {
		b := someBytes(r, n)
		if got, want := check.Hash(b), plainHash(b); got != want || got != libraryHash(b) {
			t.Fatalf("Hash of %d bytes = %X, want %X", n, got, want)
		}
	}
	if b := someBytes(r, 1<<20+3); check.Hash(b) != libraryHash(b) {
		t.Errorf("Hash of %d bytes = %X", len(b), check.Hash(b))
	}
}

func libraryHash(b []byte) uint64 {
	h := fnv.New64a()
	h.Write(b)
	return h.Sum64()
}

func TestP6_5AllSizes(t *testing.T) {
	for x := range 31 {
		for _, h := range hashes() {
			got, e := check.Places(h, 1<<x, 64)
			if want := plainPlaces(h, 1<<x, 64); e != api.OK || !slices.Equal(got, want) {
				t.Fatalf("Places(%X, 2^%d, 64) = %v, %d, want %v", h, x, got, e, want)
			}
		}
	}
}

func TestP6_5AllCounts(t *testing.T) {
	for k := -1; k <= 65; k++ {
		for _, x := range []int{0, 1, 3, 6, 7, 19, 30} {
			for _, h := range hashes()[:60] {
				got, e := check.Places(h, 1<<x, k)
				if k < 0 || k > 64 {
					refused(t, h, 1<<x, k)
				} else if want := plainPlaces(h, 1<<x, k); e != api.OK || !slices.Equal(got, want) {
					t.Fatalf("Places(%X, 2^%d, %d) = %v, %d, want %v", h, x, k, got, e, want)
				}
			}
		}
	}
}

func TestP6_5StepIsMadeOdd(t *testing.T) {
	for _, above := range []uint64{0, 2, 4, 6, 0x7FFFFFFE, 0x80000000, 0xFFFFFFFE} {
		for _, x := range []int{0, 1, 2, 8, 30} {
			even, e := check.Places(above<<32|77, 1<<x, 64)
			odd, f := check.Places((above+1)<<32|77, 1<<x, 64)
			if e != api.OK || f != api.OK || !slices.Equal(even, odd) {
				t.Errorf("Places of 2^%d bits, upper half %X: %v, but %v of one more", x, above, even, odd)
			}
			if x > 0 && even[1] == even[0] {
				t.Errorf("Places of 2^%d bits, upper half %X: the second is the first", x, above)
			}
		}
	}
}

// refused holds Places to ErrArg and no places.
func refused(t *testing.T, h uint64, bits, k int) {
	t.Helper()
	if got, e := check.Places(h, bits, k); e != api.ErrArg || len(got) != 0 {
		t.Errorf("Places(%X, %d, %d) = %v, %d, want ErrArg", h, bits, k, got, e)
	}
}

func TestP6_5WrongBits(t *testing.T) {
	wrong := []int{0, -1, -2, -8, -1 << 30, -1 << 31, 12, 1 << 31, 1<<31 + 1, 1 << 32, 1 << 62, 3 << 29, 1<<30 - 1, 1<<30 + 1, math.MaxInt, math.MaxInt - 1, math.MinInt, math.MinInt + 1, math.MaxInt32, math.MinInt32}
	for n := 3; n < 5000; n++ {
		if n&(n-1) != 0 {
			wrong = append(wrong, n)
		}
	}
	for x := 2; x <= 30; x++ {
		wrong = append(wrong, 1<<x-1, 1<<x+1, -1<<x)
	}
	for _, bits := range wrong {
		for _, k := range []int{-1, 0, 1, 64, 65} {
			refused(t, 5, bits, k)
		}
	}
}

func TestP6_5WrongCount(t *testing.T) {
	for _, k := range []int{-1, -2, -64, 65, 66, 128, 1 << 31, 1 << 40, math.MaxInt, math.MinInt, math.MinInt32} {
		for _, bits := range []int{1, 8, 128, 1 << 30, 0, 12} {
			refused(t, 0x0000000300000005, bits, k)
		}
	}
}

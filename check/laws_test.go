package check_test

import (
	"bytes"
	"slices"
	"testing"

	"colonnade/api"
	"colonnade/check"
)

func TestP6_6TwoCuts(t *testing.T) {
	b := someBytes(byChance(8), 24)
	want := plainSum(b)
	for i := range len(b) + 1 {
		for j := i; j <= len(b); j++ {
			got := check.More(check.More(check.More(0, b[:i]), b[i:j]), b[j:])
			s := written(b[:i], b[i:j], b[j:])
			if got != want || s.Sum() != want || s.Len() != uint64(len(b)) {
				t.Fatalf("cut at %d and %d: More %X, Stream %X and %d, want %X", i, j, got, s.Sum(), s.Len(), want)
			}
		}
	}
}

func TestP6_6ManyPieces(t *testing.T) {
	r := byChance(9)
	for n := range 200 {
		b := someBytes(r, n)
		sum := uint32(0)
		for _, p := range pieces(r, b) {
			sum = check.More(sum, p)
		}
		s := written(pieces(r, b)...)
		if want := check.Sum(b); sum != want || s.Sum() != want || s.Len() != uint64(n) {
			t.Fatalf("%d bytes: More %X, Stream %X and %d, want %X", n, sum, s.Sum(), s.Len(), want)
		}
	}
}

func TestP6_7ThreeTexts(t *testing.T) {
	r := byChance(10)
	for n := range 200 {
		a, b, c := someBytes(r, n), someBytes(r, n), someBytes(r, n)
		d := make([]byte, n)
		for i := range d {
			d[i] = a[i] ^ b[i] ^ c[i]
		}
		if got := check.Sum(a) ^ check.Sum(b) ^ check.Sum(c); got != check.Sum(d) {
			t.Errorf("%d bytes: %X, want %X", n, got, check.Sum(d))
		}
		if check.Sum(a)^check.Sum(a)^check.Sum(c) != check.Sum(c) {
			t.Errorf("%d bytes: a text twice", n)
		}
	}
}

// laid turns the bits of b from bit i on where bits has ones.
func laid(b []byte, i int, bits uint32) []byte {
	l := slices.Clone(b)
	for j := range 32 {
		if bits>>j&1 == 1 && i+j < 8*len(b) {
			l[(i+j)/8] ^= 1 << ((i + j) % 8)
		}
	}
	return l
}

func TestP6_8BitsWithin32(t *testing.T) {
	r := byChance(11)
	for _, n := range []int{1, 2, 3, 4, 5, 9, 40} {
		b := someBytes(r, n)
		sum := check.Sum(b)
		for i := range 8 * n {
			patterns := []uint32{1, 3, 0xFFFFFFFF, 0x80000001, 0xEDB88321, 0xDB710641, 0x04C11DB7, 0xEDB88320}
			for p := range uint32(256) {
				patterns = append(patterns, p, p<<24|1, r.Uint32())
			}
			for _, p := range patterns {
				l := laid(b, i, p)
				if same := bytes.Equal(l, b); (check.Sum(l) == sum) != same {
					t.Fatalf("%d bytes, %X laid from bit %d on: sums %X and %X", n, p, i, sum, check.Sum(l))
				}
			}
		}
	}
}

func TestP6_8TwoBits(t *testing.T) {
	b := someBytes(byChance(12), 48)
	sum := check.Sum(b)
	for i := range 8 * len(b) {
		if check.Sum(turned(b, i)) == sum {
			t.Errorf("bit %d alone turned: the same sum", i)
		}
		for j := range i {
			if check.Sum(turned(b, i, j)) == sum {
				t.Errorf("bits %d and %d turned: the same sum", j, i)
			}
		}
	}
	b = someBytes(byChance(13), 1<<18)
	sum = check.Sum(b)
	for _, far := range []int{8<<18 - 1, 8<<18 - 8, 1<<20 + 1, 1 << 20, 1<<16 - 1, 1 << 16, 65537, 1<<17 - 1, 196611, 983055} {
		for _, i := range []int{0, 5} {
			if j := i + far; j < 8*len(b) && check.Sum(turned(b, i, j)) == sum {
				t.Errorf("bits %d and %d turned: the same sum", i, j)
			}
		}
	}
}

// zeros lets a sum go over that many zero bytes, with little memory.
func zeros(sum uint32, n int) uint32 {
	piece := make([]byte, 1<<16)
	for ; n > len(piece); n -= len(piece) {
		sum = check.More(sum, piece)
	}
	return check.More(sum, piece[:n])
}

// The lowest bit of the first of 2^29 bytes and bit i of the last are 2^32 - 8 + i apart. All but the farthest of these pairs are told; that one, which the promise leaves out, is where the register comes round.
func TestP6_8TwoBitsFarthestApart(t *testing.T) {
	if testing.Short() {
		t.Skip("goes over 2^29 bytes twice")
	}
	between := 1<<29 - 2
	none, one := zeros(check.Sum([]byte{0}), between), zeros(check.Sum([]byte{1}), between)
	for i := range 8 {
		same := check.More(none, []byte{0}) == check.More(one, []byte{1 << i})
		if same != (i == 7) {
			t.Errorf("two bits that are 2^32 - %d bits apart turned: the same sum: %v", 8-i, same)
		}
	}
}

func TestP6_9Places(t *testing.T) {
	for x := range 31 {
		bits := 1 << x
		for _, h := range hashes() {
			l, _ := check.Places(h, bits, 64)
			met := map[int]bool{}
			for i, p := range l {
				if p < 0 || p >= bits {
					t.Fatalf("Places(%X, %d, 64): place %d is %d", h, bits, i, p)
				}
				if i < bits && met[p] {
					t.Fatalf("Places(%X, %d, 64): place %d was met before", h, bits, i)
				}
				if i >= bits && p != l[i-bits] {
					t.Fatalf("Places(%X, %d, 64): place %d does not come round", h, bits, i)
				}
				met[p] = true
			}
			if len(l) != 64 {
				t.Fatalf("Places(%X, %d, 64): %d places", h, bits, len(l))
			}
		}
	}
}

func TestP6_9BeginningOfMore(t *testing.T) {
	for _, bits := range []int{1, 2, 16, 64, 128, 1 << 30} {
		for _, h := range hashes() {
			all, _ := check.Places(h, bits, 64)
			for k := range 65 {
				if l, e := check.Places(h, bits, k); e != api.OK || !slices.Equal(l, all[:k]) {
					t.Fatalf("Places(%X, %d, %d) = %v, %d, of 64 %v", h, bits, k, l, e, all)
				}
			}
		}
	}
}

func TestP6_10GoesOn(t *testing.T) {
	r := byChance(14)
	for n := range 40 {
		b := someBytes(r, n)
		met := map[uint64]bool{}
		for c := range 256 {
			h := check.Hash(append(slices.Clone(b), byte(c)))
			if want := plainStep(check.Hash(b), byte(c)); h != want {
				t.Fatalf("Hash of % X and %X = %X, want %X", b, c, h, want)
			}
			met[h] = true
		}
		if len(met) != 256 {
			t.Errorf("behind % X: %d hashes of 256 last bytes", b, len(met))
		}
	}
}

// TestP6_11NothingChanged hands in the middle of some bytes, and looks at those around it too.
func TestP6_11NothingChanged(t *testing.T) {
	all := someBytes(byChance(15), 90)
	was := slices.Clone(all)
	var s check.Stream
	for i := 0; i <= 30; i++ {
		b := all[i : 60-i]
		check.Sum(b)
		check.More(7, b)
		check.Hash(b)
		s.Write(b)
		s.Sum()
		s.Len()
		s.Reset()
		if !bytes.Equal(all, was) {
			t.Fatalf("bytes were changed, % X were handed in", was[i:60-i])
		}
	}
}

func TestP6_11NothingKept(t *testing.T) {
	b := []byte("12")
	s := written(b)
	b[0] = 'x'
	asked(t, s, []byte("12"))
	s.Write([]byte("3456789"))
	clear(b)
	asked(t, s, []byte("123456789"))
}

func TestP6_11PlacesAreNew(t *testing.T) {
	for _, k := range []int{0, 1, 4, 63, 64} {
		first, _ := check.Places(5, 8, k)
		second, _ := check.Places(5, 8, k)
		want := plainPlaces(5, 8, k)
		for i := range first[:cap(first)] {
			first[:cap(first)][i] = -1
		}
		_ = append(first, -2, -3)
		third, _ := check.Places(5, 8, k)
		if !slices.Equal(second, want) || !slices.Equal(third, want) {
			t.Errorf("of %d places: %v and %v, want %v", k, second, third, want)
		}
		for i := range second[:cap(second)] {
			if second[:cap(second)][i] == -1 {
				t.Errorf("of %d places: number %d is shared", k, i)
			}
		}
	}
}

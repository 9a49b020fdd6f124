package pack_test

import (
	"math"
	"math/rand/v2"
	"testing"

	"colonnade/pack"
)

// samples are bytes of the lengths 0 to 26: all ones, and some by chance (the same in each run).
func samples() [][]byte {
	var all [][]byte
	r := rand.New(rand.NewPCG(2, 6))
	for n := range 27 {
		ones, chance := make([]byte, n), make([]byte, n)
		for i := range n {
			ones[i], chance[i] = 255, byte(r.Uint32())
		}
		all = append(all, ones, chance)
	}
	return all
}

func TestP2_5At(t *testing.T) {
	for _, b := range samples() {
		for width := 1; width <= 64; width++ {
			for i := range 8*len(b) + 3 {
				want, is := uint64(0), (i+1)*width <= 8*len(b)
				for j := 0; is && j < width; j++ {
					want |= bitAt(b, i*width+j) << j
				}
				if v, ok := pack.At(b, width, i); v != want || ok != is {
					t.Fatalf("At(%v, %d, %d) = %d, %t, not %d, %t", b, width, i, v, ok, want, is)
				}
			}
		}
	}
}

func TestP2_5AtWidth0(t *testing.T) {
	for _, b := range [][]byte{nil, {}, {255}, {1, 2, 3, 4, 5, 6, 7, 8, 9}} {
		for _, i := range []int{0, 1, 9, 1000, 1 << 60, math.MaxInt} {
			if v, is := pack.At(b, 0, i); v != 0 || !is {
				t.Errorf("At(%v, 0, %d) = %d, %t", b, i, v, is)
			}
		}
		for _, i := range []int{-1, math.MinInt} {
			if v, is := pack.At(b, 0, i); v != 0 || is {
				t.Errorf("At(%v, 0, %d) = %d, %t", b, i, v, is)
			}
		}
	}
}

func TestP2_5AtWrong(t *testing.T) {
	b := []byte{255, 255, 255, 255, 255, 255, 255, 255, 255}
	none := func(width, i int) {
		t.Helper()
		if v, is := pack.At(b, width, i); v != 0 || is {
			t.Errorf("At(.., %d, %d) = %d, %t", width, i, v, is)
		}
	}
	for _, width := range notWidths {
		for _, i := range []int{0, 1, -1, math.MinInt, math.MaxInt} {
			none(width, i)
		}
	}
	for width := 1; width <= 64; width++ {
		for _, i := range []int{-1, -2, math.MinInt, 72, math.MaxInt} {
			none(width, i)
		}
		for k := 30; k < 63; k++ { // times some widths these wrap round to a bit that b has
			none(width, 1<<k)
			none(width, 1<<k+1)
		}
	}
}

// wordOf is a plain reading of P2.6.
func wordOf(b []byte, bit int) uint64 {
	var w uint64
	for j := range 64 {
		if bit > math.MaxInt-j {
			break
		}
		w |= bitAt(b, bit+j) << j
	}
	return w
}

func TestP2_6Word(t *testing.T) {
	for _, b := range samples() {
		for bit := -140; bit < 8*len(b)+140; bit++ {
			if v, want := pack.Word(b, bit), wordOf(b, bit); v != want {
				t.Fatalf("Word(%v, %d) = %x, not %x", b, bit, v, want)
			}
		}
	}
}

func TestP2_6WordFar(t *testing.T) {
	for _, b := range samples() {
		for d := range 130 {
			for _, bit := range []int{math.MinInt + d, math.MaxInt - d, -64 - d, 8*len(b) + d} {
				if v := pack.Word(b, bit); v != 0 {
					t.Fatalf("Word(%v, %d) = %x, not 0", b, bit, v)
				}
			}
		}
		for k := 10; k < 63; k++ {
			for _, bit := range []int{1 << k, 1<<k + 1, -1 << k, -1<<k + 1} {
				if v := pack.Word(b, bit); v != 0 {
					t.Fatalf("Word(%v, %d) = %x, not 0", b, bit, v)
				}
			}
		}
	}
}

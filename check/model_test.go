package check_test

import (
	"math/big"
	"math/rand/v2"
	"slices"

	"colonnade/check"
)

// plainOver lets the register go over bytes as the chapter's words say it: a bit at a time.
func plainOver(register uint32, b []byte) uint32 {
	for _, c := range b {
		register ^= uint32(c)
		for range 8 {
			fell := register & 1
			register >>= 1
			if fell == 1 {
				register ^= 0xEDB88320
			}
		}
	}
	return register
}

// plainMore turns the bits of sum one by one, ahead of the bytes and behind them.
func plainMore(sum uint32, b []byte) uint32 {
	return 0xFFFFFFFF - plainOver(0xFFFFFFFF-sum, b)
}

// plainSum begins with 32 ones.
func plainSum(b []byte) uint32 { return 0xFFFFFFFF - plainOver(0xFFFFFFFF, b) }

// plainStep is one step of the hash, in whole numbers of any size.
func plainStep(h uint64, c byte) uint64 {
	n := new(big.Int).SetUint64(h>>8<<8 | (h&0xFF ^ uint64(c)))
	n.Mul(n, big.NewInt(0x100000001B3))
	return n.Mod(n, new(big.Int).Lsh(big.NewInt(1), 64)).Uint64()
}

func plainHash(b []byte) uint64 {
	h := uint64(0xCBF29CE484222325)
	for _, c := range b {
		h = plainStep(h, c)
	}
	return h
}

// plainPlaces are k places, in whole numbers of any size.
func plainPlaces(h uint64, bits, k int) []int {
	a, d := new(big.Int).SetUint64(h%(1<<32)), new(big.Int).SetUint64(h/(1<<32))
	d.SetBit(d, 0, 1)
	var l []int
	for i := range k {
		n := new(big.Int).Mul(big.NewInt(int64(i)), d)
		n.Add(n, a)
		l = append(l, int(n.Mod(n, big.NewInt(int64(bits))).Int64()))
	}
	return l
}

// turned is b with bit i (bits in order) the other way round.
func turned(b []byte, places ...int) []byte {
	l := slices.Clone(b)
	for _, i := range places {
		l[i/8] ^= 1 << (i % 8)
	}
	return l
}

func byChance(seed uint64) *rand.Rand { return rand.New(rand.NewPCG(6, seed)) }

// someBytes are n of them by chance.
func someBytes(r *rand.Rand, n int) []byte {
	b := make([]byte, n)
	for i := range b {
		b[i] = byte(r.Uint32())
	}
	return b
}

// pieces cuts b by chance; some of the pieces have no bytes.
func pieces(r *rand.Rand, b []byte) [][]byte {
	l := [][]byte{nil}
	for len(b) > 0 {
		n := min(r.IntN(9), len(b))
		l = append(l, b[:n])
		b = b[n:]
	}
	return append(l, []byte{})
}

// written is a Stream to which pieces were written, one behind the other.
func written(l ...[]byte) *check.Stream {
	s := new(check.Stream)
	for _, b := range l {
		s.Write(b)
	}
	return s
}

// sums are registers to begin with: no bit, one bit alone, all bits, and some by chance.
func sums() []uint32 {
	l := []uint32{0, 5, 0xFFFFFFFF, 0xFFFFFFFE, 0x7FFFFFFF, 0xCBF43926, 0xEDB88320, 0x12477CDF}
	for i := range 32 {
		l = append(l, 1<<i)
	}
	r := byChance(1)
	for range 20 {
		l = append(l, r.Uint32())
	}
	return l
}

// hashes to take places of: halves that are nothing, one, odd, even and full.
func hashes() []uint64 {
	half := []uint64{0, 1, 2, 3, 4, 5, 7, 8, 0x7FFFFFFF, 0x80000000, 0x80000001, 0xFFFFFFFE, 0xFFFFFFFF}
	var l []uint64
	for _, above := range half {
		for _, below := range half {
			l = append(l, above<<32|below)
		}
	}
	r := byChance(2)
	for range 100 {
		l = append(l, r.Uint64())
	}
	return l
}

package check

import "colonnade/api"

// What a hash begins with, and what it is multiplied by.
const (
	hashStart  = 0xCBF29CE484222325
	hashFactor = 0x100000001B3
)

// The most that Places takes.
const (
	maxBits   = 1 << 30
	maxPlaces = 64
)

// Hash: P6.4.
func Hash(b []byte) uint64 {
	h := uint64(hashStart)
	for _, c := range b {
		h = (h ^ uint64(c)) * hashFactor
	}
	return h
}

// Places: P6.5.
func Places(h uint64, bits, k int) ([]int, api.Errno) {
	if !mayBeBits(bits) {
		return nil, api.ErrArg
	}
	if k < 0 || k > maxPlaces {
		return nil, api.ErrArg
	}
	first, step := h&0xFFFFFFFF, h>>32|1
	l := make([]int, k)
	for i := range l {
		l[i] = int((first + uint64(i)*step) % uint64(bits))
	}
	return l, api.OK
}

// mayBeBits: a power of two has one bit alone, which going one below clears.
func mayBeBits(bits int) bool {
	return bits > 0 && bits <= maxBits && bits&(bits-1) == 0
}

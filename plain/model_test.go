package plain_test

import (
	"math"
	"math/big"
	"math/rand/v2"
	"strings"

	"colonnade/api"
)

// two64 is 2^64.
func two64() *big.Int { return new(big.Int).Exp(big.NewInt(2), big.NewInt(64), nil) }

// plainBytes is a number of so many bytes, by dividing, the lowest first.
func plainBytes(v *big.Int, size int) []byte {
	var b []byte
	rest := new(big.Int).Set(v)
	for range size {
		low := new(big.Int)
		rest.DivMod(rest, big.NewInt(256), low)
		b = append(b, byte(low.Int64()))
	}
	return b
}

// plainNumber is what bytes come to, by multiplying, the last one first.
func plainNumber(b []byte) *big.Int {
	v := new(big.Int)
	for i := len(b) - 1; i >= 0; i-- {
		v.Mul(v, big.NewInt(256))
		v.Add(v, big.NewInt(int64(b[i])))
	}
	return v
}

// plainInt is the number of eight bytes: 2^64 less, if that many stand there for one below 0.
func plainInt(b []byte) int64 {
	v := plainNumber(b)
	if v.Cmp(big.NewInt(math.MaxInt64)) > 0 {
		v.Sub(v, two64())
	}
	return v.Int64()
}

func plainPutInts(l []int64) []byte {
	var b []byte
	for _, v := range l {
		n := big.NewInt(v)
		if v < 0 {
			n.Add(n, two64())
		}
		b = append(b, plainBytes(n, 8)...)
	}
	return b
}

func plainInts(b []byte, n int) ([]int64, api.Errno) {
	switch {
	case n < 0:
		return nil, api.ErrArg
	case n > 16777216:
		return nil, api.ErrLarge
	case len(b) < 8*n:
		return nil, api.ErrShort
	case len(b) > 8*n:
		return nil, api.ErrRest
	}
	var l []int64
	for i := 0; i < len(b); i += 8 {
		l = append(l, plainInt(b[i:i+8]))
	}
	return l, api.OK
}

func plainIntAt(b []byte, i int) (int64, bool) {
	for at := 0; at+8 <= len(b); at += 8 {
		if at/8 == i {
			return plainInt(b[at : at+8]), true
		}
	}
	return 0, false
}

// plainPutTexts is of texts that may be put.
func plainPutTexts(l []string) []byte {
	b := plainBytes(big.NewInt(0), 4)
	for i := range l {
		b = append(b, plainBytes(big.NewInt(int64(len(strings.Join(l[:i+1], "")))), 4)...)
	}
	return append(b, strings.Join(l, "")...)
}

// plainEnds is the n + 1 ends that b begins with.
func plainEnds(b []byte, n int) []int {
	var l []int
	for i := range n + 1 {
		l = append(l, int(plainNumber(b[4*i:4*i+4]).Int64()))
	}
	return l
}

func plainTexts(b []byte, n int) ([]string, api.Errno) {
	switch {
	case n < 0:
		return nil, api.ErrArg
	case n > 16777216:
		return nil, api.ErrLarge
	case len(b) < 4*(n+1):
		return nil, api.ErrShort
	}
	ends, heap := plainEnds(b, n), b[4*(n+1):]
	if ends[0] != 0 {
		return nil, api.ErrForm
	}
	for i := range n {
		if ends[i+1] < ends[i] || ends[i+1] > ends[i]+65535 {
			return nil, api.ErrForm
		}
	}
	switch {
	case len(heap) < ends[n]:
		return nil, api.ErrShort
	case len(heap) > ends[n]:
		return nil, api.ErrRest
	}
	var l []string
	for i := range n {
		l = append(l, string(heap[ends[i]:ends[i+1]]))
	}
	return l, api.OK
}

func plainTextAt(b []byte, n, i int) (string, bool) {
	if n < 0 || n > 16777216 || i < 0 || i > n-1 || len(b) < 4*(n+1) {
		return "", false
	}
	ends, heap := plainEnds(b, n), b[4*(n+1):]
	if ends[i] > ends[i+1] || len(heap) < ends[i+1] {
		return "", false
	}
	return string(heap[ends[i]:ends[i+1]]), true
}

// shelf is bytes that say these ends, and have this heap.
func shelf(heap string, ends ...uint32) []byte {
	var b []byte
	for _, end := range ends {
		b = append(b, plainBytes(big.NewInt(int64(end)), 4)...)
	}
	return append(b, heap...)
}

// byChance is a source of numbers, the same in each run.
func byChance(seed uint64) *rand.Rand { return rand.New(rand.NewPCG(8, seed)) }

// someInts are n numbers by chance, small and great, on either side of 0.
func someInts(r *rand.Rand, n int) []int64 {
	l := make([]int64, n)
	for i := range l {
		l[i] = int64(r.Uint64()) >> r.IntN(64)
	}
	return l
}

// someTexts are n texts by chance, empty ones and bytes of all kinds among them.
func someTexts(r *rand.Rand, n int) []string {
	l := make([]string, n)
	for i := range l {
		b := make([]byte, r.IntN(3)*r.IntN(9))
		for j := range b {
			b[j] = byte(r.Uint32())
		}
		l[i] = string(b)
	}
	return l
}

// edgeInts are numbers at the ends of bytes and of int64.
func edgeInts() []int64 {
	l := []int64{0, 1, -1, 255, 256, -256, -257, math.MinInt64, math.MinInt64 + 1, math.MaxInt64, math.MaxInt64 - 1, 0x0102030405060708}
	for i := range 63 {
		l = append(l, 1<<i, -1<<i, 1<<i-1)
	}
	return l
}

// edgeCounts are numbers of values at the ends of what may be, and of int.
func edgeCounts() []int {
	return []int{math.MinInt, math.MinInt + 1, math.MinInt / 8, -16777216, -2, -1, 0, 1, 2, 3, 16777216, 16777217, 1 << 29, 1 << 30, 1<<31 - 1, 1 << 61, 1<<61 + 1, 1 << 62, 1<<62 - 1, math.MaxInt - 1, math.MaxInt}
}

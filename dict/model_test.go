package dict_test

import (
	"cmp"
	"math"
	"math/big"
	"math/rand/v2"
	"slices"
	"strings"

	"colonnade/api"
)

// plainBuild is the keys and the codes, by sorting and searching from the front.
func plainBuild[T cmp.Ordered](l []T) ([]T, []uint32) {
	var keys []T
	for _, v := range l {
		if plainPlace(keys, v) < 0 {
			keys = append(keys, v)
		}
	}
	slices.SortFunc(keys, cmp.Compare[T])
	var codes []uint32
	for _, v := range l {
		codes = append(codes, uint32(plainPlace(keys, v)))
	}
	return keys, codes
}

// plainPlace is the number of the key that v is alike to, -1 if there is none.
func plainPlace[T cmp.Ordered](keys []T, v T) int {
	for i, k := range keys {
		if cmp.Compare(k, v) == 0 {
			return i
		}
	}
	return -1
}

// plainFloor counts the keys that are below v.
func plainFloor[T cmp.Ordered](keys []T, v T) int {
	n := 0
	for _, k := range keys {
		if cmp.Compare(k, v) < 0 {
			n++
		}
	}
	return n
}

// plainWidth is the width of so many keys, by halving the greatest code.
func plainWidth(keys int) int {
	w := 0
	for top := keys - 1; top > 0; top /= 2 {
		w++
	}
	return w
}

// plainShort is a short number, by dividing.
func plainShort(v int) []byte {
	var b []byte
	for v >= 128 {
		b = append(b, byte(v%128+128))
		v /= 128
	}
	return append(b, byte(v))
}

// plainLanes is codes in lanes, a bit at a time.
func plainLanes(codes []uint32, width int) []byte {
	b := make([]byte, (len(codes)*width+7)/8)
	for i, c := range codes {
		for j := range width {
			if bit := i*width + j; c>>j&1 == 1 {
				b[bit/8] += 1 << (bit % 8)
			}
		}
	}
	return b
}

// plainLane is the number in lane i, whose bits are all there.
func plainLane(b []byte, width, i int) int {
	v := 0
	for j := width - 1; j >= 0; j-- {
		bit := i*width + j
		v = 2*v + int(b[bit/8]>>(bit%8)&1)
	}
	return v
}

// plainBytes is a number of so many bytes, by dividing, the lowest first.
func plainBytes(v *big.Int, size int) []byte {
	var b []byte
	rest := new(big.Int).Set(v)
	for range size {
		low := new(big.Int)
		rest.DivMod(rest, big.NewInt(256), low)
		b = append(b, byte(low.Int64()))
	}
	return b
}

// plainNumber is what bytes come to, by multiplying, the last one first.
func plainNumber(b []byte) *big.Int {
	v := new(big.Int)
	for i := len(b) - 1; i >= 0; i-- {
		v.Mul(v, big.NewInt(256))
		v.Add(v, big.NewInt(int64(b[i])))
	}
	return v
}

func two64() *big.Int { return new(big.Int).Exp(big.NewInt(2), big.NewInt(64), nil) }

func intKeys(l []int64) []byte {
	var b []byte
	for _, v := range l {
		n := big.NewInt(v)
		if v < 0 {
			n.Add(n, two64())
		}
		b = append(b, plainBytes(n, 8)...)
	}
	return b
}

func textKeys(l []string) []byte {
	b, at := make([]byte, 4), 0
	for _, s := range l {
		at += len(s)
		b = append(b, plainBytes(big.NewInt(int64(at)), 4)...)
	}
	return append(b, strings.Join(l, "")...)
}

// formOf is the form of a list that may be put.
func formOf[T cmp.Ordered](l []T, show func([]T) []byte) []byte {
	keys, codes := plainBuild(l)
	return slices.Concat(plainShort(len(keys)), show(keys), plainLanes(codes, plainWidth(len(keys))))
}

func formOfInts(l []int64) []byte   { return formOf(l, intKeys) }
func formOfTexts(l []string) []byte { return formOf(l, textKeys) }

// guessInts are as many keys as b says in front, if it has them all, and what stands behind them.
func guessInts(b []byte) ([]int64, []byte, bool) {
	count, b, is := guessCount(b)
	if !is || count > len(b)/8 {
		return nil, nil, false
	}
	var keys []int64
	for i := range count {
		v := plainNumber(b[8*i : 8*i+8])
		if v.Cmp(big.NewInt(math.MaxInt64)) > 0 {
			v.Sub(v, two64())
		}
		keys = append(keys, v.Int64())
	}
	return keys, b[8*count:], true
}

// guessTexts is likewise of texts.
func guessTexts(b []byte) ([]string, []byte, bool) {
	count, b, is := guessCount(b)
	if !is || count+1 > len(b)/4 {
		return nil, nil, false
	}
	var ends []int
	for i := range count + 1 {
		ends = append(ends, int(plainNumber(b[4*i:4*i+4]).Int64()))
	}
	heap := b[4*count+4:]
	var keys []string
	for i := range count {
		if ends[i] > ends[i+1] || ends[i+1]-ends[i] > 65535 || ends[i+1] > len(heap) {
			return nil, nil, false
		}
		keys = append(keys, string(heap[ends[i]:ends[i+1]]))
	}
	if ends[count] > len(heap) {
		return nil, nil, false
	}
	return keys, heap[ends[count]:], true
}

// guessCount is the number that stands in front, whatever its form, and what stands behind it.
func guessCount(b []byte) (int, []byte, bool) {
	for i, c := range b {
		if c < 128 && i < 9 {
			v := 0
			for j := i; j >= 0; j-- {
				v = v*128 + int(b[j])%128
			}
			return v, b[i+1:], v <= 65536
		}
	}
	return 0, nil, false
}

// plainRead guesses the one list whose form b may be, and takes it only if its form is just b.
func plainRead[T cmp.Ordered](b []byte, n int, guess func([]byte) ([]T, []byte, bool), form func([]T) []byte) ([]T, int, []byte, api.Errno) {
	switch {
	case n < 0:
		return nil, 0, nil, api.ErrArg
	case n > 16777216:
		return nil, 0, nil, api.ErrLarge
	}
	keys, rest, is := guess(b)
	if !is {
		return nil, 0, nil, api.ErrDict
	}
	width := plainWidth(len(keys))
	if n > 0 && len(keys) == 0 || len(keys) > n || n*width > 8*len(rest) {
		return nil, 0, nil, api.ErrDict
	}
	var l []T
	for i := range n {
		c := plainLane(rest, width, i)
		if c >= len(keys) {
			return nil, 0, nil, api.ErrDict
		}
		l = append(l, keys[c])
	}
	if !slices.Equal(form(l), b) {
		return nil, 0, nil, api.ErrDict
	}
	return keys, width, rest, api.OK
}

// byChance is a source of numbers, the same in each run.
func byChance(seed uint64) *rand.Rand { return rand.New(rand.NewPCG(9, seed)) }

// someInts are n numbers by chance out of a few, small and great, on either side of 0.
func someInts(r *rand.Rand, n, few int) []int64 {
	from := make([]int64, max(few, 1))
	for i := range from {
		from[i] = int64(r.Uint64()) >> r.IntN(64)
	}
	return pick(r, n, from)
}

// someTexts are n texts by chance out of a few, empty ones and bytes of all kinds among them.
func someTexts(r *rand.Rand, n, few int) []string {
	from := make([]string, max(few, 1))
	for i := range from {
		b := make([]byte, r.IntN(3)*r.IntN(5))
		for j := range b {
			b[j] = byte(r.Uint32())
		}
		from[i] = string(b)
	}
	return pick(r, n, from)
}

func pick[T any](r *rand.Rand, n int, from []T) []T {
	l := make([]T, n)
	for i := range l {
		l[i] = from[r.IntN(len(from))]
	}
	return l
}

// edgeCounts are numbers of values at the ends of what may be, and of int.
func edgeCounts() []int {
	return []int{math.MinInt, math.MinInt + 1, -16777216, -2, -1, 0, 1, 2, 3, 4, 8, 16777216, 16777217, 1<<31 - 1, 1 << 31, 1 << 60, 1<<62 + 1, math.MaxInt - 1, math.MaxInt}
}

package bloom_test

import (
	"fmt"
	"hash/fnv"
	"math"
	"math/big"
	"math/rand/v2"
	"slices"
	"strings"

	"colonnade/api"
)

func num(i int64) api.Value           { return api.Value{Kind: api.Int, Int: i} }
func word(s string) api.Value         { return api.Value{Kind: api.Text, Text: s} }
func realOf(f float64) api.Value      { return api.Value{Kind: api.Real, Real: f} }
func list(l ...api.Value) []api.Value { return l }

// sizes are all that a filter may have, written out.
func sizes() []int {
	return []int{8, 16, 32, 64, 128, 256, 512, 1024, 2048, 4096, 8192, 16384, 32768, 65536}
}

// wrongSizes are what no filter has: below 8, above MaxBloom, no power of two, 0 and below, and the ends of int.
func wrongSizes() []int {
	l := []int{0, 1, 2, 3, 4, 5, 6, 7, 12, 24, 48, 65535, 65537, 65544, 98304, 131072, 262144, 1 << 20, 1 << 30, 1 << 31, 1 << 32, 1<<32 + 8, 1 << 62}
	l = append(l, -1, -2, -4, -7, -8, -16, -64, -65536, -131072, math.MinInt32, math.MinInt, math.MinInt+1, math.MinInt+8, math.MaxInt, math.MaxInt-7)
	for _, n := range sizes() {
		l = append(l, n-1, n+1, -n, 3*n)
	}
	return l
}

// wrongLengths are lengths of bytes that are no filter.
func wrongLengths() []int {
	return []int{0, 1, 2, 3, 4, 5, 6, 7, 9, 12, 15, 17, 24, 63, 65, 96, 1000, 65535, 65537, 98304, 131072, 262144}
}

// goodValues are values for a filter, at the edges.
func goodValues() []api.Value {
	l := list(word(""), word("a"), word("b"), word("ab"), word("\x00"), word("\x00\x00"), word("\xff"), word("\xff\x80"), word("é"), word("\x05\x00\x00\x00\x00\x00\x00\x00"), word("\x01"), word("\x02"))
	l = append(l, word(strings.Repeat("x", 255)), word(strings.Repeat("y", 65534)), word(strings.Repeat("z", 65535)), word(strings.Repeat("\x00", 65535)))
	for _, i := range []int64{math.MinInt64, math.MinInt64 + 1, -1 << 32, -65536, -257, -256, -255, -2, -1, 0, 1, 2, 5, 127, 128, 255, 256, 65535, 65536, 1<<32 - 1, 1 << 32, 1 << 53, math.MaxInt64 - 1, math.MaxInt64} {
		l = append(l, num(i))
	}
	for i := range 63 {
		l = append(l, num(1<<i), num(-1<<i))
	}
	return l
}

// wrongValues are no values for a filter: Null, Reals, and what may not be.
func wrongValues() []api.Value {
	minus, none := math.Copysign(0, -1), math.NaN()
	l := list(api.Value{}, realOf(0), realOf(1), realOf(-2.5), realOf(5), realOf(minus), realOf(none), realOf(math.Inf(1)), realOf(math.Inf(-1)))
	for _, kind := range []int{-1, 4, 5, 255, 256, 257, 258, -255, -254, 1<<32 + 1, 1<<32 + 2, math.MinInt, math.MaxInt} {
		l = append(l, api.Value{Kind: kind}, api.Value{Kind: kind, Int: 5}, api.Value{Kind: kind, Text: "a"})
	}
	for _, f := range []float64{1, -1, minus, none, math.Inf(1), math.SmallestNonzeroFloat64} {
		l = append(l, api.Value{Kind: api.Int, Int: 5, Real: f}, api.Value{Kind: api.Text, Text: "a", Real: f}, api.Value{Kind: api.Null, Real: f})
	}
	l = append(l, api.Value{Kind: api.Int, Text: "a"}, api.Value{Kind: api.Int, Int: 5, Text: "\x00"}, api.Value{Kind: api.Text, Int: 1}, api.Value{Kind: api.Text, Int: -1, Text: "a"})
	l = append(l, api.Value{Kind: api.Null, Int: 5}, api.Value{Kind: api.Null, Text: "a"})
	return append(l, word(strings.Repeat("x", 65536)), word(strings.Repeat("x", 65537)), word(strings.Repeat("\x00", 1<<17)))
}

// plainBytes are a value's bytes, those of a number by dividing.
func plainBytes(v api.Value) []byte {
	if v.Kind == 2 {
		return []byte("\x02" + v.Text)
	}
	rest := big.NewInt(v.Int)
	if v.Int < 0 {
		rest.Add(rest, new(big.Int).Lsh(big.NewInt(1), 64))
	}
	b := []byte{1}
	for range 8 {
		low := new(big.Int)
		rest.DivMod(rest, big.NewInt(256), low)
		b = append(b, byte(low.Int64()))
	}
	return b
}

// plainPlaces are a value's four places in a filter of size bytes, by the library's hash and in whole numbers of any size.
func plainPlaces(size int, v api.Value) []int {
	h := fnv.New64a()
	h.Write(plainBytes(v))
	first, step := big.NewInt(int64(h.Sum64()%(1<<32))), big.NewInt(int64(h.Sum64()/(1<<32)))
	step.SetBit(step, 0, 1)
	var l []int
	for range 4 {
		l = append(l, int(new(big.Int).Mod(first, big.NewInt(8*int64(size))).Int64()))
		first.Add(first, step)
	}
	return l
}

// plainBuild is the filter of some values for a filter, each bit by itself.
func plainBuild(size int, l []api.Value) []byte {
	ones := map[int]bool{}
	for _, v := range l {
		for _, p := range plainPlaces(size, v) {
			ones[p] = true
		}
	}
	b := make([]byte, size)
	for j := range 8 * size {
		if ones[j] {
			b[j/8] += []byte{1, 2, 4, 8, 16, 32, 64, 128}[j%8]
		}
	}
	return b
}

// plainBit is bit j of a filter.
func plainBit(b []byte, j int) bool {
	return int(b[j/8])/[]int{1, 2, 4, 8, 16, 32, 64, 128}[j%8]%2 == 1
}

// plainHas is whether a filter has a value for a filter.
func plainHas(b []byte, v api.Value) bool {
	for _, p := range plainPlaces(len(b), v) {
		if !plainBit(b, p) {
			return false
		}
	}
	return true
}

// turned is b with bit j the other way round.
func turned(b []byte, j int) []byte {
	l := slices.Clone(b)
	l[j/8] ^= 1 << (j % 8)
	return l
}

// byChance is a source of numbers, the same in each run.
func byChance(seed uint64) *rand.Rand { return rand.New(rand.NewPCG(13, seed)) }

// someBytes are n of them by chance.
func someBytes(r *rand.Rand, n int) []byte {
	b := make([]byte, n)
	for i := range b {
		b[i] = byte(r.Uint32())
	}
	return b
}

// someValues are n values for a filter by chance: numbers near to 0 and far, texts short and longer.
func someValues(r *rand.Rand, n int) []api.Value {
	l := make([]api.Value, n)
	for i := range l {
		if r.IntN(2) == 0 {
			l[i] = num(int64(r.Uint64()) >> r.IntN(64))
		} else {
			l[i] = word(string(someBytes(r, r.IntN(20))))
		}
	}
	return l
}

// brief is a thing as text, bytes that are no letters told as question marks, cut where it is long.
func brief(v any) string {
	s := strings.ToValidUTF8(fmt.Sprintf("%v", v), "?")
	if len(s) > 200 {
		return s[:200] + ".."
	}
	return s
}

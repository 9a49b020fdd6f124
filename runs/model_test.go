package runs_test

import (
	"fmt"
	"math"
	"math/big"
	"math/rand/v2"
	"slices"

	"colonnade/api"
	"colonnade/runs"
)

type (
	intRun  = runs.Run[int64]
	textRun = runs.Run[string]
)

// plainFold looks for the end of each run, from its first value on.
func plainFold[T comparable](l []T) []runs.Run[T] {
	var out []runs.Run[T]
	for i := 0; i < len(l); {
		end := i + 1
		for end < len(l) && l[end] == l[i] {
			end++
		}
		out = append(out, runs.Run[T]{Value: l[i], N: end - i})
		i = end
	}
	return out
}

// plainSum is the N together, however great.
func plainSum[T comparable](l []runs.Run[T]) *big.Int {
	sum := new(big.Int)
	for _, r := range l {
		sum.Add(sum, big.NewInt(int64(r.N)))
	}
	return sum
}

// plainUnfold is the values that runs mean, or why they are not told.
func plainUnfold[T comparable](l []runs.Run[T]) ([]T, api.Errno) {
	for _, r := range l {
		if r.N <= 0 {
			return nil, api.ErrRuns
		}
	}
	if plainSum(l).Cmp(big.NewInt(16777216)) > 0 {
		return nil, api.ErrLarge
	}
	var out []T
	for _, r := range l {
		out = slices.Concat(out, slices.Repeat([]T{r.Value}, r.N))
	}
	return out, api.OK
}

// plainAt counts the places up, as numbers of any size.
func plainAt[T comparable](l []runs.Run[T], i int) (T, bool) {
	place, end := big.NewInt(int64(i)), new(big.Int)
	for _, r := range l {
		first := new(big.Int).Set(end)
		if r.N > 0 {
			end.Add(end, big.NewInt(int64(r.N)))
		}
		if first.Cmp(place) <= 0 && place.Cmp(end) < 0 {
			return r.Value, true
		}
	}
	var none T
	return none, false
}

// plainShort is a short form, by dividing.
func plainShort(v *big.Int) []byte {
	var b []byte
	rest := new(big.Int).Set(v)
	for {
		low := new(big.Int)
		rest.DivMod(rest, big.NewInt(128), low)
		if rest.Sign() == 0 {
			return append(b, byte(low.Int64()))
		}
		b = append(b, byte(low.Int64())+128)
	}
}

// short is the short form of a number without a sign.
func short(v uint64) []byte { return plainShort(new(big.Int).SetUint64(v)) }

// plainFolded is a number with a sign among those without.
func plainFolded(v int64) *big.Int {
	n := new(big.Int).Mul(big.NewInt(2), big.NewInt(v))
	if v < 0 {
		n.Neg(n)
		n.Sub(n, big.NewInt(1))
	}
	return n
}

func intBytes(v int64) []byte   { return plainShort(plainFolded(v)) }
func textBytes(v string) []byte { return append(short(uint64(len(v))), v...) }

// bytesOf is the bytes of runs, whatever their N and their values.
func bytesOf[T comparable](l []runs.Run[T], value func(T) []byte) []byte {
	b := short(uint64(len(l)))
	for _, r := range l {
		b = append(b, short(uint64(r.N))...)
		b = append(b, value(r.Value)...)
	}
	return b
}

func bytesOfInts(l ...intRun) []byte   { return bytesOf(l, intBytes) }
func bytesOfTexts(l ...textRun) []byte { return bytesOf(l, textBytes) }

// plainReader has bytes and a place among them.
type plainReader struct {
	b  []byte
	at int
}

// short reads a short form as P7.7 goes through its bytes, and multiplies.
func (p *plainReader) short() (*big.Int, api.Errno) {
	v, unit := new(big.Int), big.NewInt(1)
	for i := 0; ; i++ {
		if p.at+i >= len(p.b) {
			return nil, api.ErrShort
		}
		c := p.b[p.at+i]
		if i == 9 && c > 1 {
			return nil, api.ErrForm
		}
		v.Add(v, new(big.Int).Mul(unit, big.NewInt(int64(c%128))))
		unit.Mul(unit, big.NewInt(128))
		if c < 128 {
			if c == 0 && i > 0 {
				return nil, api.ErrForm
			}
			p.at += i + 1
			return v, api.OK
		}
	}
}

func (p *plainReader) int() (int64, api.Errno) {
	v, e := p.short()
	if e != api.OK {
		return 0, e
	}
	half, odd := new(big.Int).DivMod(v, big.NewInt(2), new(big.Int))
	if odd.Sign() > 0 {
		half.Neg(half)
		half.Sub(half, big.NewInt(1))
	}
	return half.Int64(), api.OK
}

func (p *plainReader) text() (string, api.Errno) {
	v, e := p.short()
	if e != api.OK {
		return "", e
	}
	if v.Cmp(big.NewInt(65535)) > 0 {
		return "", api.ErrForm
	}
	end := p.at + int(v.Int64())
	if end > len(p.b) {
		return "", api.ErrShort
	}
	s := string(p.b[p.at:end])
	p.at = end
	return s, api.OK
}

// plainRead is P10.5, step by step.
func plainRead[T comparable](b []byte, n int, value func(*plainReader) (T, api.Errno)) ([]runs.Run[T], api.Errno) {
	if n < 0 || n > 16777216 {
		return nil, api.ErrArg
	}
	p := &plainReader{b: b}
	count, e := p.short()
	if e != api.OK {
		return nil, e
	}
	var out []runs.Run[T]
	sum, all := new(big.Int), big.NewInt(int64(n))
	for i := new(big.Int); i.Cmp(count) < 0; i.Add(i, big.NewInt(1)) {
		often, e := p.short()
		if e != api.OK {
			return nil, e
		}
		v, e := value(p)
		if e != api.OK {
			return nil, e
		}
		sum.Add(sum, often)
		if often.Sign() == 0 || sum.Cmp(all) > 0 {
			return nil, api.ErrRuns
		}
		if len(out) > 0 && out[len(out)-1].Value == v {
			return nil, api.ErrRuns
		}
		out = append(out, runs.Run[T]{Value: v, N: int(often.Int64())})
	}
	if sum.Cmp(all) != 0 {
		return nil, api.ErrRuns
	}
	if p.at != len(b) {
		return nil, api.ErrRest
	}
	return out, api.OK
}

func plainInts(b []byte, n int) ([]intRun, api.Errno) {
	return plainRead(b, n, (*plainReader).int)
}

func plainTexts(b []byte, n int) ([]textRun, api.Errno) {
	return plainRead(b, n, (*plainReader).text)
}

// byChance is a source of numbers, the same in each run.
func byChance(seed uint64) *rand.Rand { return rand.New(rand.NewPCG(10, seed)) }

// pick is n values by chance out of some, each as often as chance will have it.
func pick[T any](r *rand.Rand, n int, from []T) []T {
	l := make([]T, 0, n)
	for len(l) < n {
		v := from[r.IntN(len(from))]
		for range min(1+r.IntN(4)*r.IntN(4), n-len(l)) {
			l = append(l, v)
		}
	}
	return l
}

// someInts are n numbers by chance out of a few, small and great, on either side of 0.
func someInts(r *rand.Rand, n, few int) []int64 {
	from := []int64{math.MinInt64, math.MaxInt64}
	for range few {
		from = append(from, int64(r.Uint64())>>r.IntN(64))
	}
	return pick(r, n, from)
}

// someTexts are n texts by chance out of a few, empty ones and bytes of all kinds among them.
func someTexts(r *rand.Rand, n, few int) []string {
	from := []string{"", "\x00"}
	for range few {
		b := make([]byte, r.IntN(3)*r.IntN(90))
		for j := range b {
			b[j] = byte(r.Uint32())
		}
		from = append(from, string(b))
	}
	return pick(r, n, from)
}

// brief is a thing as text, cut where it is long.
func brief(v any) string {
	s := fmt.Sprintf("%v", v)
	if b, is := v.([]byte); is {
		s = fmt.Sprintf("% X", b)
	}
	if len(s) > 300 {
		return s[:300] + ".."
	}
	return s
}

// edgeCounts are numbers of values at the ends of what may be, and of int.
func edgeCounts() []int {
	return []int{math.MinInt, math.MinInt + 1, -16777216, -2, -1, 0, 1, 2, 3, 4, 8, 16777215, 16777216, 16777217, 1<<31 - 1, 1 << 31, 1 << 32, 1<<32 + 3, 1 << 62, math.MaxInt - 1, math.MaxInt}
}

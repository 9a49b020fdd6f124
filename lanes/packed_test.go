package lanes_test

import (
	"math"
	"math/big"
	"math/rand/v2"
	"slices"
	"testing"

	"colonnade/api"
	"colonnade/bits"
	"colonnade/lanes"
)

// examples are the chapter's packed numbers: 5 2 7 0 in 3 bits each.
var examples = []byte{0xD5, 0x01}

func TestP3_4Test(t *testing.T) {
	everyNumbers(func(m numbers) {
		b := m.bytes(t)
		for _, c := range m.asked() {
			for _, op := range ops {
				s, e := lanes.Test(b, m.width, len(m.l), op, c)
				sameSet(t, s, e, m.which(func(v uint64) bool { return stands(op, v, c) }), "Test", m, op, c)
			}
		}
	})
}

func TestP3_4TestWrongOp(t *testing.T) {
	for _, op := range []int{0, -1, 7, 8, -6, math.MinInt, math.MaxInt} {
		for _, c := range []uint64{0, 7, 9} {
			for _, x := range []struct {
				b        []byte
				width, n int
			}{{examples, 3, 4}, {nil, 0, 3}, {nil, 3, 0}, {nil, 0, 0}} {
				if s, e := lanes.Test(x.b, x.width, x.n, op, c); s != nil || e != api.ErrArg {
					t.Errorf("Test(%v, op %d, %d) = %v, %d", x, op, c, s, e)
				}
			}
		}
	}
}

// TestP3_4Faults stands for P3.4, P3.5 and P3.6: each of their calls answers the first fault of the packed numbers, and Test that ahead of a wrong op.
func TestP3_4Faults(t *testing.T) {
	for _, b := range [][]byte{nil, examples, make([]byte, 100)} {
		for _, width := range notWidths {
			for _, n := range []int{math.MinInt, -1, 0, 4, api.MaxRows, api.MaxRows + 1, math.MaxInt} {
				fails(t, b, width, n, api.ErrWidth)
			}
		}
		for _, width := range []int{0, 1, 3, 63, 64} {
			for _, n := range []int{-1, -8, math.MinInt} {
				fails(t, b, width, n, api.ErrArg)
			}
			for _, n := range []int{api.MaxRows + 1, math.MaxInt} {
				fails(t, b, width, n, api.ErrLarge)
			}
		}
	}
	fails(t, nil, 64, api.MaxRows, api.ErrCut)
	fails(t, make([]byte, api.MaxRows/8-1), 1, api.MaxRows, api.ErrCut)
	fails(t, []byte{0}, 0, 0, api.ErrLeft)
	fails(t, []byte{0}, 0, 8, api.ErrLeft)
}

func TestP3_4CutAndLeft(t *testing.T) {
	everyNumbers(func(m numbers) {
		n, b := len(m.l), m.bytes(t)
		if len(b) > 0 {
			fails(t, b[:len(b)-1], m.width, n, api.ErrCut)
			fails(t, nil, m.width, n, api.ErrCut)
		}
		fails(t, append(b[:len(b):len(b)], 0), m.width, n, api.ErrLeft)
		for bit := n * m.width; bit < len(b)*8; bit++ {
			more := slices.Clone(b)
			more[bit/8] |= 1 << (bit % 8)
			fails(t, more, m.width, n, api.ErrLeft)
		}
	})
	fails(t, []byte{0x81}, 7, 2, api.ErrCut) // ahead of a bit behind the last number
}

func TestP3_4WholeRange(t *testing.T) {
	for _, width := range []int{0, 1, 3} {
		b := make([]byte, api.MaxRows*width/8)
		for _, op := range ops {
			for _, c := range []uint64{0, 1} {
				want := 0
				if stands(op, 0, c) {
					want = api.MaxRows
				}
				if s, e := lanes.Test(b, width, api.MaxRows, op, c); e != api.OK || s.Len() != api.MaxRows || s.Count() != want {
					t.Errorf("Test(MaxRows zeros, %d, op %d, %d): %d numbers, error %d", width, op, c, s.Count(), e)
				}
			}
		}
	}
}

func TestP3_5Between(t *testing.T) {
	everyNumbers(func(m numbers) {
		b, l := m.bytes(t), m.asked()
		for _, lo := range l {
			for _, hi := range l {
				s, e := lanes.Between(b, m.width, len(m.l), lo, hi)
				sameSet(t, s, e, m.which(func(v uint64) bool { return lo <= v && v <= hi }), "Between", m, lo, hi)
			}
		}
	})
}

func TestP3_5In(t *testing.T) {
	r := rand.New(rand.NewPCG(3, 5))
	everyNumbers(func(m numbers) {
		b, l := m.bytes(t), m.asked()
		r.Shuffle(len(l), func(i, j int) { l[i], l[j] = l[j], l[i] })
		for _, k := range []int{0, 1, 2, 3, len(l)} {
			in(t, m, b, l[:k])
		}
		in(t, m, b, slices.Repeat(l[:2], 40))
		in(t, m, b, []uint64{most(m.width) + 1, math.MaxUint64})
	})
}

// in fails, unless In answers the numbers that are among l.
func in(t *testing.T, m numbers, b []byte, l []uint64) {
	t.Helper()
	s, e := lanes.In(b, m.width, len(m.l), l...)
	sameSet(t, s, e, m.which(func(v uint64) bool { return slices.Contains(l, v) }), "In", m, l)
}

func TestP3_5InMany(t *testing.T) {
	r := rand.New(rand.NewPCG(5, 3))
	for width := range 65 {
		m := numbers{make([]uint64, 150), width}
		for i := range m.l {
			m.l[i] = r.Uint64() & most(width)
		}
		b := m.bytes(t)
		for _, k := range []int{1, 30, 31, 32, 33, 34, 63, 64, 65, 150} {
			l := slices.Clone(m.l[:k])
			in(t, m, b, l)
			for i := range l {
				l[i] += uint64(i % 3)
			}
			in(t, m, b, append(l, math.MaxUint64, most(width)+1))
		}
	}
}

func TestP3_6Sum(t *testing.T) {
	everyNumbers(func(m numbers) {
		want := new(big.Int)
		for _, v := range m.l {
			want.Add(want, new(big.Int).SetUint64(v))
		}
		hi, lo, e := lanes.Sum(m.bytes(t), m.width, len(m.l))
		got := new(big.Int).Lsh(new(big.Int).SetUint64(hi), 64)
		if got.Add(got, new(big.Int).SetUint64(lo)); e != api.OK || got.Cmp(want) != 0 {
			t.Fatalf("Sum(%v) = %d, %d, error %d, not %d", m, hi, lo, e, want)
		}
	})
}

func TestP3_6SumMany(t *testing.T) {
	ones := slices.Repeat([]byte{255}, api.MaxRows/2)
	for _, x := range []struct {
		b        []byte
		width, n int
		hi, lo   uint64
	}{
		{ones[:16], 64, 2, 1, math.MaxUint64 - 1},
		{ones[:24], 64, 3, 2, math.MaxUint64 - 2},
		{ones, 4, api.MaxRows, 0, 15 * api.MaxRows},
		{ones, 64, api.MaxRows / 16, api.MaxRows/16 - 1, -api.MaxRows/16 + 1<<64},
		{nil, 0, api.MaxRows, 0, 0},
		{nil, 64, 0, 0, 0},
		{nil, 0, 0, 0, 0},
	} {
		if hi, lo, e := lanes.Sum(x.b, x.width, x.n); hi != x.hi || lo != x.lo || e != api.OK {
			t.Errorf("Sum(ones, %d, %d) = %x, %x, error %d", x.width, x.n, hi, lo, e)
		}
	}
}

func TestP3_6Ends(t *testing.T) {
	everyNumbers(func(m numbers) {
		var least, greatest uint64
		if len(m.l) > 0 {
			least, greatest = slices.Min(m.l), slices.Max(m.l)
		}
		if a, z, e := lanes.Ends(m.bytes(t), m.width, len(m.l)); a != least || z != greatest || e != api.OK {
			t.Fatalf("Ends(%v) = %d, %d, error %d", m, a, z, e)
		}
	})
	if a, z, e := lanes.Ends(nil, 0, api.MaxRows); a != 0 || z != 0 || e != api.OK {
		t.Errorf("Ends of MaxRows numbers of width 0 = %d, %d, error %d", a, z, e)
	}
}

// tested is Test's set, which must be there.
func tested(t *testing.T, m numbers, b []byte, op int, c uint64) *bits.Set {
	t.Helper()
	s, e := lanes.Test(b, m.width, len(m.l), op, c)
	if e != api.OK {
		t.Fatalf("Test(%v, %d, %d): %d", m, op, c, e)
	}
	return s
}

func TestP3_8OneOfThree(t *testing.T) {
	everyNumbers(func(m numbers) {
		b := m.bytes(t)
		for _, c := range m.asked() {
			below, equal, above := tested(t, m, b, api.Lt, c), tested(t, m, b, api.Eq, c), tested(t, m, b, api.Gt, c)
			for i := range m.l {
				n := 0
				for _, s := range []*bits.Set{below, equal, above} {
					if s.Get(i) {
						n++
					}
				}
				if n != 1 {
					t.Fatalf("%v and %d: the number %d is in %d of the sets", m, c, i, n)
				}
			}
			sameSet(t, tested(t, m, b, api.Ne, c), api.OK, equal.Not(), "Ne", m, c)
			sameSet(t, tested(t, m, b, api.Ge, c), api.OK, below.Not(), "Ge", m, c)
			sameSet(t, tested(t, m, b, api.Le, c), api.OK, above.Not(), "Le", m, c)
		}
	})
}

func TestP3_8AndOr(t *testing.T) {
	everyNumbers(func(m numbers) {
		b, l := m.bytes(t), m.asked()
		either := bits.New(len(m.l))
		for i, c := range l {
			in, e := lanes.In(b, m.width, len(m.l), l[:i]...)
			sameSet(t, in, e, either, "In", m, l[:i])
			either, _ = either.Or(tested(t, m, b, api.Eq, c))
			other := l[len(l)-1-i]
			both, _ := tested(t, m, b, api.Ge, c).And(tested(t, m, b, api.Le, other))
			between, e := lanes.Between(b, m.width, len(m.l), c, other)
			sameSet(t, between, e, both, "Between", m, c, other)
		}
	})
}

// TestP3_9OtherWidth packs the same numbers in their own width and in greater ones.
func TestP3_9OtherWidth(t *testing.T) {
	everyNumbers(func(m numbers) {
		n, own, l := len(m.l), m.bytes(t), m.asked()[:3]
		hi, lo, _ := lanes.Sum(own, m.width, n)
		least, greatest, _ := lanes.Ends(own, m.width, n)
		between, _ := lanes.Between(own, m.width, n, l[1], l[2])
		in, _ := lanes.In(own, m.width, n, l...)
		for _, width := range []int{m.width + 1, m.width + 7, 31, 32, 33, 63, 64} {
			if width < m.width || width > 64 {
				continue
			}
			o := numbers{m.l, width}
			b := o.bytes(t)
			for _, op := range ops {
				sameSet(t, tested(t, o, b, op, l[2]), api.OK, tested(t, m, own, op, l[2]), "Test", o, op, l[2])
			}
			s, e := lanes.Between(b, width, n, l[1], l[2])
			sameSet(t, s, e, between, "Between", o)
			s, e = lanes.In(b, width, n, l...)
			sameSet(t, s, e, in, "In", o)
			if h, w, e := lanes.Sum(b, width, n); h != hi || w != lo || e != api.OK {
				t.Fatalf("Sum(%v) = %d, %d, error %d", o, h, w, e)
			}
			if a, z, e := lanes.Ends(b, width, n); a != least || z != greatest || e != api.OK {
				t.Fatalf("Ends(%v) = %d, %d, error %d", o, a, z, e)
			}
		}
	})
}

package bits_test

import (
	"math"
	"math/rand/v2"
	"slices"
	"testing"

	"colonnade/api"
	"colonnade/bits"
)

// lengths are those around which a word begins or ends, and some between.
var lengths = []int{0, 1, 2, 3, 31, 32, 33, 62, 63, 64, 65, 66, 100, 127, 128, 129, 191, 192, 193, 256, 300}

// model is a plain reading of a set: a bool a number.
type model []bool

// models are lists of bools of the length n: none, all, the ends, every other, and some by chance (the same in each run).
func models(n int) []model {
	none, all, ends, other := make(model, n), make(model, n), make(model, n), make(model, n)
	few, half := make(model, n), make(model, n)
	r := rand.New(rand.NewPCG(1, uint64(n)))
	for i := range n {
		all[i] = true
		ends[i] = i == 0 || i == n-1
		other[i] = i%2 == 1
		few[i] = r.IntN(20) == 0
		half[i] = r.IntN(2) == 0
	}
	return []model{none, all, ends, other, few, half}
}

// modelOf reads a set number by number.
func modelOf(s *bits.Set) model {
	m := make(model, s.Len())
	for i := range m {
		m[i] = s.Get(i)
	}
	return m
}

func (m model) words() []uint64 {
	w := make([]uint64, (len(m)+63)/64)
	for i, on := range m {
		if on {
			w[i/64] += 1 << (i % 64)
		}
	}
	return w
}

func (m model) held() []int {
	var l []int
	for i, on := range m {
		if on {
			l = append(l, i)
		}
	}
	return l
}

// same fails, unless s is the set that m tells, by each call that only looks.
func same(t *testing.T, what string, s *bits.Set, m model) {
	t.Helper()
	if s == nil {
		t.Fatalf("%s: no set", what)
	}
	if s.Len() != len(m) {
		t.Fatalf("%s: length %d, not %d", what, s.Len(), len(m))
	}
	for i := -3; i < len(m)+130; i++ {
		if want := i >= 0 && i < len(m) && m[i]; s.Get(i) != want {
			t.Fatalf("%s: Get(%d) of length %d is not %t", what, i, len(m), want)
		}
	}
	if w := s.Words(); !slices.Equal(w, m.words()) {
		t.Fatalf("%s: words %x, not %x", what, w, m.words())
	}
	if l := slices.Collect(s.All()); !slices.Equal(l, m.held()) {
		t.Fatalf("%s: holds %v, not %v", what, l, m.held())
	}
	if n := s.Count(); n != len(m.held()) {
		t.Fatalf("%s: count %d, not %d", what, n, len(m.held()))
	}
}

// full is the set of the length n that holds all, made by Load alone.
func full(t *testing.T, n int) *bits.Set {
	t.Helper()
	w := make([]uint64, (n+63)/64)
	for i := range w {
		w[i] = math.MaxUint64
	}
	if n%64 != 0 {
		w[len(w)-1] = 1<<(n%64) - 1
	}
	s, e := bits.Load(n, w)
	if e != api.OK {
		t.Fatalf("Load(%d): %d", n, e)
	}
	return s
}

func TestP1_1New(t *testing.T) {
	for _, n := range []int{-1, -64, math.MinInt, api.MaxRows + 1, api.MaxRows + 64, math.MaxInt} {
		if bits.New(n) != nil {
			t.Errorf("New(%d) is a set", n)
		}
	}
	for _, n := range lengths {
		same(t, "New", bits.New(n), make(model, n))
	}
	s := bits.New(api.MaxRows)
	if s.Len() != api.MaxRows || s.Count() != 0 || len(s.Words()) != api.MaxRows/64 {
		t.Error("New(MaxRows)")
	}
}

func TestP1_1Of(t *testing.T) {
	same(t, "Of()", bits.Of(), model{})
	same(t, "Of", bits.Of(true, false, true), model{true, false, true})
	for _, n := range lengths {
		for _, m := range models(n) {
			same(t, "Of", bits.Of(m...), m)
		}
	}
	b := make([]bool, api.MaxRows+1)
	b[api.MaxRows-1], b[api.MaxRows] = true, true
	if bits.Of(b...) != nil {
		t.Error("Of of more than MaxRows is a set")
	}
	s := bits.Of(b[:api.MaxRows]...)
	if s.Len() != api.MaxRows || s.Count() != 1 || !s.Get(api.MaxRows-1) || s.Get(api.MaxRows) {
		t.Error("Of of MaxRows")
	}
}

func TestP1_2Load(t *testing.T) {
	for _, n := range lengths {
		for _, m := range models(n) {
			s, e := bits.Load(n, m.words())
			if e != api.OK {
				t.Fatalf("Load(%d): %d", n, e)
			}
			same(t, "Load", s, m)
		}
	}
	if s := full(t, api.MaxRows); s.Count() != api.MaxRows {
		t.Error("Load(MaxRows)")
	}
}

func TestP1_2LoadTail(t *testing.T) {
	for _, n := range lengths {
		for i := n; i < (n+63)/64*64; i++ {
			w := make(model, n).words()
			w[i/64] = 1 << (i % 64)
			if s, e := bits.Load(n, w); s != nil || e != api.ErrTail {
				t.Errorf("Load(%d) with the bit %d: %d", n, i, e)
			}
		}
	}
}

func TestP1_2LoadErrors(t *testing.T) {
	tail := []uint64{math.MaxUint64}
	for _, x := range []struct {
		n int
		w []uint64
		e api.Errno
	}{
		{-1, nil, api.ErrArg},
		{-1, tail, api.ErrArg},
		{math.MinInt, tail, api.ErrArg},
		{api.MaxRows + 1, nil, api.ErrArg},
		{api.MaxRows + 1, make([]uint64, api.MaxRows/64+1), api.ErrArg},
		{math.MaxInt, tail, api.ErrArg},
		{0, []uint64{0}, api.ErrSize},
		{0, tail, api.ErrSize},
		{1, nil, api.ErrSize},
		{1, []uint64{2, 2}, api.ErrSize},
		{63, []uint64{0, 0}, api.ErrSize},
		{64, nil, api.ErrSize},
		{64, []uint64{0, 0}, api.ErrSize},
		{65, tail, api.ErrSize},
		{65, []uint64{0, 2, 0}, api.ErrSize},
		{api.MaxRows, make([]uint64, api.MaxRows/64-1), api.ErrSize},
		{api.MaxRows, make([]uint64, api.MaxRows/64+1), api.ErrSize},
		{3, []uint64{8}, api.ErrTail},
		{65, []uint64{1, 2}, api.ErrTail},
	} {
		if s, e := bits.Load(x.n, x.w); s != nil || e != x.e {
			t.Errorf("Load(%d, %d words): %d, not %d", x.n, len(x.w), e, x.e)
		}
	}
}

func TestP1_3Clone(t *testing.T) {
	for _, n := range lengths {
		for _, m := range models(n) {
			s := bits.Of(m...)
			c := s.Clone()
			if c == s {
				t.Fatal("a clone is the set itself")
			}
			same(t, "Clone", c, m)
		}
	}
}

func TestP1_3GetFarAway(t *testing.T) {
	s := full(t, 64)
	for _, i := range []int{-1, -64, math.MinInt, 64, 128, 1 << 32, math.MaxInt} {
		if s.Get(i) {
			t.Errorf("Get(%d)", i)
		}
	}
}

func TestP1_4Put(t *testing.T) {
	for _, n := range lengths {
		for _, m := range models(n) {
			s, want := bits.Of(m...), slices.Clone(m)
			r := rand.New(rand.NewPCG(2, uint64(n)))
			for range min(n, 40) {
				i, on := r.IntN(n), r.IntN(2) == 0
				if e := s.Put(i, on); e != api.OK {
					t.Fatalf("Put(%d) of length %d: %d", i, n, e)
				}
				want[i] = on
				same(t, "Put", s, want)
			}
		}
	}
}

func TestP1_4PutOutside(t *testing.T) {
	for _, n := range lengths {
		for _, m := range models(n) {
			s := bits.Of(m...)
			for _, i := range []int{-1, -64, math.MinInt, n, n + 1, n + 64, 1 << 32, math.MaxInt} {
				for _, on := range []bool{false, true} {
					if e := s.Put(i, on); e != api.ErrArg {
						t.Errorf("Put(%d, %t) of length %d: %d", i, on, n, e)
					}
				}
			}
			same(t, "Put outside", s, m)
		}
	}
}

func TestP1_4PutAtMaxRows(t *testing.T) {
	s := bits.New(api.MaxRows)
	if e := s.Put(api.MaxRows-1, true); e != api.OK || !s.Get(api.MaxRows-1) || s.Count() != 1 {
		t.Error("Put of the last one")
	}
	if e := s.Put(api.MaxRows, true); e != api.ErrArg || s.Count() != 1 {
		t.Error("Put behind the last one", e)
	}
}

func TestP1_9NotThere(t *testing.T) {
	var s *bits.Set
	for _, i := range []int{math.MinInt, -1, 0, 1, 64, math.MaxInt} {
		if s.Rank(i) != 0 || s.Get(i) {
			t.Errorf("Rank or Get of %d", i)
		}
		if k, is := s.Select(i); k != 0 || is {
			t.Errorf("Select(%d): %d %t", i, k, is)
		}
		if s.Put(i, true) != api.ErrNil || s.Put(i, false) != api.ErrNil {
			t.Errorf("Put(%d)", i)
		}
		if s.Slice(i, 1) != nil || s.Slice(0, i) != nil {
			t.Errorf("Slice(%d)", i)
		}
	}
	if s.Len() != 0 || s.Count() != 0 || len(s.Words()) != 0 || s.Clone() != nil || s.Not() != nil {
		t.Error("no set")
	}
	all := s.All()
	if all == nil {
		t.Fatal("All is no iterator")
	}
	for i := range all {
		t.Errorf("All tells %d", i)
	}
}

func TestZeroValue(t *testing.T) {
	var s bits.Set
	same(t, "the zero value", &s, model{})
	same(t, "its clone", s.Clone(), model{})
	same(t, "its not", s.Not(), model{})
	same(t, "a slice of it", s.Slice(-1, 9), model{})
	for _, o := range []*bits.Set{bits.New(0), {}} {
		for name, put := range puts(&s) {
			r, e := put(o)
			if e != api.OK {
				t.Errorf("%s: %d", name, e)
			}
			same(t, name, r, model{})
		}
	}
	if _, e := s.And(bits.New(1)); e != api.ErrSize {
		t.Error("And with a longer one", e)
	}
	if s.Put(0, true) != api.ErrArg || s.Put(-1, false) != api.ErrArg || s.Rank(5) != 0 {
		t.Error("Put or Rank")
	}
	if k, is := s.Select(0); k != 0 || is {
		t.Error("Select")
	}
	j, e := bits.Join(&s, bits.Of(true), &s)
	if e != api.OK {
		t.Error("Join", e)
	}
	same(t, "Join", j, model{true})
}

package bits_test

import (
	"math"
	"math/rand/v2"
	"testing"

	"colonnade/api"
	"colonnade/bits"
)

// cut is a plain reading of Slice's two ends.
func (m model) cut(from, to int) model {
	if from < 0 {
		from = 0
	} else if from > len(m) {
		from = len(m)
	}
	if to < 0 {
		to = 0
	} else if to > len(m) {
		to = len(m)
	}
	if to < from {
		to = from
	}
	return m[from:to]
}

func TestP1_8Slice(t *testing.T) {
	for _, n := range []int{0, 1, 2, 63, 64, 65, 129} {
		for _, m := range models(n) {
			s := bits.Of(m...)
			for from := -2; from <= n+2; from++ {
				for to := -2; to <= n+2; to += 1 + n/40 {
					same(t, "Slice", s.Slice(from, to), m.cut(from, to))
				}
			}
			far := []int{math.MinInt, math.MinInt + 1, -64, 0, 1, n, n + 64, math.MaxInt - 1, math.MaxInt}
			for _, from := range far {
				for _, to := range far {
					same(t, "Slice far away", s.Slice(from, to), m.cut(from, to))
				}
			}
			same(t, "behind the slices", s, m)
		}
	}
}

func TestP1_8SliceAtMaxRows(t *testing.T) {
	s := full(t, api.MaxRows)
	s.Put(api.MaxRows-2, false)
	if p := s.Slice(1, api.MaxRows+9); p.Len() != api.MaxRows-1 || p.Count() != api.MaxRows-2 || p.Get(api.MaxRows-3) || !p.Get(api.MaxRows-2) {
		t.Error("all but the first")
	}
	same(t, "the last three", s.Slice(api.MaxRows-3, math.MaxInt), model{true, false, true})
}

// mix is some models of lengths by chance, short and long, and all of them one behind the other.
func mix(r *rand.Rand, most int) (parts []model, whole model) {
	for range r.IntN(most) {
		n := lengths[r.IntN(len(lengths))]
		of := models(n)
		m := of[r.IntN(len(of))]
		parts, whole = append(parts, m), append(whole, m...)
	}
	return parts, whole
}

func sets(l []model) []*bits.Set {
	var out []*bits.Set
	for _, m := range l {
		out = append(out, bits.Of(m...))
	}
	return out
}

func TestP1_8Join(t *testing.T) {
	none, e := bits.Join()
	same(t, "Join()", must(t, none, e), model{})
	for _, a := range lengths {
		for _, b := range lengths {
			for i, x := range models(a) {
				y := models(b)[5-i]
				j, e := bits.Join(bits.Of(x...), bits.Of(y...))
				same(t, "Join of two", must(t, j, e), append(append(model{}, x...), y...))
			}
		}
	}
	r := rand.New(rand.NewPCG(3, 3))
	for range 300 {
		parts, whole := mix(r, 12)
		j, e := bits.Join(sets(parts)...)
		same(t, "Join", must(t, j, e), whole)
	}
}

func TestP1_8JoinOfOneManyTimes(t *testing.T) {
	s := bits.Of(true, false, true)
	j, e := bits.Join(s, s, s)
	same(t, "Join", must(t, j, e), model{true, false, true, true, false, true, true, false, true})
	one, e := bits.Join(s)
	if one == s {
		t.Error("Join of one is the set itself")
	}
	same(t, "Join of one", must(t, one, e), model{true, false, true})
}

func TestP1_8JoinErrors(t *testing.T) {
	most, one, none := bits.New(api.MaxRows), bits.New(1), bits.New(0)
	if j, e := bits.Join(none, most, none); e != api.OK || j.Len() != api.MaxRows {
		t.Error("Join of MaxRows", e)
	}
	half := full(t, api.MaxRows/2)
	if j, e := bits.Join(half, half); e != api.OK || j.Count() != api.MaxRows {
		t.Error("Join of two halves", e)
	}
	for _, x := range []struct {
		l []*bits.Set
		e api.Errno
	}{
		{[]*bits.Set{nil}, api.ErrNil},
		{[]*bits.Set{one, nil}, api.ErrNil},
		{[]*bits.Set{nil, one}, api.ErrNil},
		{[]*bits.Set{most, one}, api.ErrLarge},
		{[]*bits.Set{one, most}, api.ErrLarge},
		{[]*bits.Set{half, half, none, one}, api.ErrLarge},
		{[]*bits.Set{most, most, most}, api.ErrLarge},
		{[]*bits.Set{most, one, nil}, api.ErrNil},
		{[]*bits.Set{nil, most, one}, api.ErrNil},
	} {
		if j, e := bits.Join(x.l...); j != nil || e != x.e {
			t.Errorf("Join of %d sets: %d, not %d", len(x.l), e, x.e)
		}
	}
}

func TestP1_12LoadOfWords(t *testing.T) {
	for _, n := range lengths {
		for _, m := range models(n) {
			s := bits.Of(m...)
			back, e := bits.Load(s.Len(), s.Words())
			same(t, "Load of the Words", must(t, back, e), m)
		}
	}
}

func TestP1_12SlicesJoined(t *testing.T) {
	r := rand.New(rand.NewPCG(4, 4))
	for _, n := range lengths {
		for _, m := range models(n) {
			s := bits.Of(m...)
			var l []*bits.Set
			for at := 0; at < n; {
				to := at + r.IntN(80)
				l = append(l, s.Slice(at, to))
				at = min(to, n)
			}
			j, e := bits.Join(l...)
			same(t, "slices joined", must(t, j, e), m)
		}
	}
}

func TestP1_12PieceOfJoin(t *testing.T) {
	r := rand.New(rand.NewPCG(5, 5))
	for range 100 {
		parts, _ := mix(r, 12)
		j, e := bits.Join(sets(parts)...)
		must(t, j, e)
		at := 0
		for _, m := range parts {
			same(t, "a piece of a join", j.Slice(at, at+len(m)), m)
			at += len(m)
		}
	}
}

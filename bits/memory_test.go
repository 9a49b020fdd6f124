package bits_test

import (
	"math/rand/v2"
	"slices"
	"testing"

	"colonnade/bits"
)

// turn makes each number of s the other way, so that what shares its memory is turned with it.
func turn(s *bits.Set) {
	for i := range s.Len() {
		s.Put(i, !s.Get(i))
	}
}

func TestP1_13AnswersAreNew(t *testing.T) {
	for _, n := range []int{1, 63, 64, 65, 128, 200} {
		for _, m := range models(n) {
			a, b := bits.Of(m...), bits.New(n)
			for name, answer := range makers(a, b) {
				r := answer()
				want := modelOf(r)
				if r == a || r == b {
					t.Fatalf("%s answers its own set", name)
				}
				turn(a)
				turn(b)
				same(t, name+": the answer, when what it was made of turns", r, want)
				turn(a)
				turn(b)
				turn(r)
				same(t, name+": s, when the answer turns", a, m)
				same(t, name+": o, when the answer turns", b, make(model, n))
			}
		}
	}
}

// makers are all calls that make a set out of others.
func makers(a, b *bits.Set) map[string]func() *bits.Set {
	first := func(s *bits.Set, _ any) *bits.Set { return s }
	return map[string]func() *bits.Set{
		"Clone":            func() *bits.Set { return a.Clone() },
		"And":              func() *bits.Set { return first(a.And(a)) },
		"Or":               func() *bits.Set { return first(a.Or(b)) },
		"Xor":              func() *bits.Set { return first(a.Xor(b)) },
		"Less":             func() *bits.Set { return first(a.Less(b)) },
		"Not":              func() *bits.Set { return a.Not() },
		"Slice of all":     func() *bits.Set { return a.Slice(0, a.Len()) },
		"Slice of a piece": func() *bits.Set { return a.Slice(a.Len()/64*64, a.Len()) },
		"Join of one":      func() *bits.Set { return first(bits.Join(a)) },
		"Join of two":      func() *bits.Set { return first(bits.Join(a, b)) },
		"Load":             func() *bits.Set { return first(bits.Load(a.Len(), a.Words())) },
	}
}

func TestP1_13Words(t *testing.T) {
	s := bits.Of(true, false, true)
	w, again := s.Words(), s.Words()
	w[0] = 0
	_ = append(w[:0:cap(w)], 1, 1, 1)
	same(t, "the set, when its words turn", s, model{true, false, true})
	if again[0] != 5 {
		t.Error("two answers of Words share memory")
	}
	s.Put(1, true)
	if again[0] != 5 {
		t.Error("a Put turns words that were answered")
	}
}

func TestP1_13Arguments(t *testing.T) {
	room := []uint64{5, 6, 7, 8}
	s, _ := bits.Load(3, room[:1])
	turn(s)
	if !slices.Equal(room, []uint64{5, 6, 7, 8}) {
		t.Errorf("Load or Put turned what was handed in: %v", room)
	}
	room[0] = 0
	same(t, "the set, when the words that were handed in turn", s, model{false, true, false})

	b := []bool{true, false, true, true}
	o := bits.Of(b[:2]...)
	turn(o)
	if !slices.Equal(b, []bool{true, false, true, true}) {
		t.Errorf("Of or Put turned what was handed in: %v", b)
	}
	b[0] = true
	same(t, "the set, when the bools that were handed in turn", o, model{false, true})

	x, y := bits.Of(true), bits.Of(false)
	l := []*bits.Set{x, y, x}
	j, _ := bits.Join(l[:2]...)
	if l[0] != x || l[1] != y || l[2] != x {
		t.Error("Join turned what was handed in")
	}
	l[0] = nil
	same(t, "a join, when the list that was handed in turns", j, model{true, false})
}

// TestP1_13ManySets makes sets out of one another and turns single ones: all others must stay as they are.
func TestP1_13ManySets(t *testing.T) {
	r := rand.New(rand.NewPCG(6, 6))
	for _, n := range []int{1, 64, 70, 150} {
		pool, want := []*bits.Set{bits.New(n)}, []model{make(model, n)}
		for range 60 {
			a, b := r.IntN(len(pool)), r.IntN(len(pool))
			all := makers(pool[a], pool[b])
			names := []string{"Clone", "And", "Or", "Xor", "Less", "Not", "Slice of all", "Join of one", "Load"}
			s := all[names[r.IntN(len(names))]]()
			pool, want = append(pool, s), append(want, modelOf(s))
			k, i, on := r.IntN(len(pool)), r.IntN(n), r.IntN(3) > 0
			pool[k].Put(i, on)
			want[k][i] = on
			for x := range pool {
				same(t, "one of many", pool[x], want[x])
			}
		}
	}
}

package sel_test

import (
	"math"
	"slices"
	"testing"

	"colonnade/api"
	"colonnade/bits"
	"colonnade/sel"
)

// answers are what all calls answer that are handed the selections a and b, which have one length.
func answers(t *testing.T, a, b sel.Sel) []sel.Sel {
	t.Helper()
	n := a.Len()
	l := []sel.Sel{sel.Make(a.Bits()), at(t, n, a.List()...), sel.Whole(n), sel.None(n), sel.Not(a), sel.Cut(a, 0, n), sel.Cut(a, -5, n+5), sel.Cut(a, 1, n-1)}
	for _, put := range puts {
		l = append(l, must(t)(put.call(a)), must(t)(put.call(a, a)), must(t)(put.call(a, b)), must(t)(put.call(a, b, a)))
		l = append(l, must(t)(put.call(a, sel.Whole(n))), must(t)(put.call(sel.Whole(n), a)), must(t)(put.call(a, sel.None(n))), must(t)(put.call(sel.None(n), a)))
	}
	return append(l, must(t)(sel.Less(a, b)), must(t)(sel.Less(a, sel.None(n))))
}

// listsOf are the rows of selections, told now.
func listsOf(l []sel.Sel) [][]int {
	var lists [][]int
	for _, s := range l {
		lists = append(lists, s.List())
	}
	return lists
}

// turn makes all that can be turned of a selection something else: itself, and what its methods answered, to the end of the room.
func turn(s sel.Sel) {
	for _, l := range [][]int{s.List(), s.List()} {
		l = l[:cap(l)]
		for i := range l {
			l[i] = -7
		}
	}
	b := s.Bits()
	for i := range b.Len() {
		b.Put(i, !s.Has(i))
	}
	if d, is := s.(sel.Dense); is {
		for i := range d.Len() {
			d.Put(i, !d.Get(i))
		}
	}
}

func TestP4_8AnswersAreNew(t *testing.T) {
	for _, n := range []int{1, 64, 320} {
		for _, x := range models(n) {
			for _, y := range models(n)[:6] {
				for k := range answers(t, sel.Make(bits.Of(x...)), sel.None(n)) {
					for _, a := range forms(t, x) {
						b := sel.Make(bits.Of(y...))
						l := answers(t, a, b)
						were := listsOf(l)
						turn(l[k])
						for i, s := range l {
							if i != k && !slices.Equal(s.List(), were[i]) {
								t.Fatalf("the answer %d turns with the answer %d", i, k)
							}
						}
						holds(t, "the first argument", a, x)
						holds(t, "the second argument", b, y)
					}
				}
			}
		}
	}
}

func TestP4_8AnswersDoNotTurnWithArguments(t *testing.T) {
	for _, n := range []int{1, 64, 320} {
		for _, x := range models(n) {
			for _, a := range forms(t, x) {
				b := dense(t, where(n, func(i int) bool { return i%5 == 0 }))
				l := answers(t, a, b)
				were := listsOf(l)
				turn(a)
				turn(b)
				if !slices.EqualFunc(listsOf(l), were, slices.Equal) {
					t.Fatal("an answer turns with an argument")
				}
			}
		}
	}
}

func TestP4_8WhatMethodsAnswerIsNew(t *testing.T) {
	for _, n := range lengths {
		for _, m := range models(n) {
			for _, s := range forms(t, m) {
				first, other := s.List(), s.List()
				for i := range first[:cap(first)] {
					first[:cap(first)][i] = math.MinInt
				}
				if !slices.Equal(other, m.rows()) {
					t.Fatal("two lists share their memory")
				}
				one, two := s.Bits(), s.Bits()
				for i := range n {
					one.Put(i, !m[i])
				}
				if !slices.Equal(slices.Collect(two.All()), m.rows()) {
					t.Fatal("two sets share their memory")
				}
				holds(t, "whose answers were turned", s, m)
			}
		}
	}
}

func TestP4_8AtKeepsNothing(t *testing.T) {
	for _, n := range []int{12, 400} {
		room := []int{1, 2, 3, 9, 11, 4, 77, -3}
		were := slices.Clone(room)
		s := at(t, n, room[:5]...)
		same(t, "At", s, modelOf(n, 1, 2, 3, 9, 11))
		if !slices.Equal(room, were) {
			t.Fatal("At changed what it was handed")
		}
		clear(room)
		same(t, "At, and its list changed later", s, modelOf(n, 1, 2, 3, 9, 11))
		if _, e := sel.At(n, room[:2]); e != api.ErrIndex {
			t.Fatal(e)
		}
	}
}

func TestP4_8MoreStaysAsItIs(t *testing.T) {
	a, b, c := at(t, 64, 3), at(t, 64, 3, 4, 5), sel.Whole(64)
	room := []sel.Sel{b, c, a, nil}
	for _, put := range puts {
		must(t)(put.call(a, room[:2]...))
		if room[0] == nil || room[3] != nil || !sel.Same(room[0], b) || !sel.Same(room[1], c) || !sel.Same(room[2], a) {
			t.Error("the selections that were handed in have changed")
		}
	}
	clear(room)
}

// notThere are selections that no call answers: none at all, and the zero values of both forms, which the page takes for objects that are not there.
var notThere = []sel.Sel{nil, sel.Dense{}, sel.Sparse{}}

func TestPageZeroValues(t *testing.T) {
	for _, s := range notThere[1:] {
		if s.Len() != 0 || s.Count() != 0 || s.Has(0) || s.Has(-1) || len(s.List()) != 0 || s.Bits() != nil {
			t.Errorf("%T: it tells something", s)
		}
		for i := range s.All() {
			t.Errorf("%T: a walk comes to %d", s, i)
		}
	}
	there := sel.None(0)
	for _, s := range notThere {
		if sel.Not(s) != nil || sel.Cut(s, 0, 0) != nil || sel.Same(s, there) || sel.Same(there, s) {
			t.Errorf("%T is taken for one that is there", s)
		}
		for _, o := range notThere {
			if !sel.Same(s, o) {
				t.Errorf("%T and %T are both not there", s, o)
			}
		}
		for name, put := range puts {
			for _, l := range [][]sel.Sel{{s}, {s, there}, {there, s}, {there, sel.None(1), s}, {s, s}} {
				if r, e := put.call(l[0], l[1:]...); r != nil || e != api.ErrNil {
					t.Errorf("%s of %T: %d", name, s, e)
				}
			}
		}
		if r, e := sel.Less(s, there); r != nil || e != api.ErrNil {
			t.Errorf("Less of %T: %d", s, e)
		}
		if r, e := sel.Less(there, s); r != nil || e != api.ErrNil {
			t.Errorf("Less with %T: %d", s, e)
		}
	}
	var d sel.Dense
	if d.Put(0, true) != api.ErrNil {
		t.Error("Put of a Dense without a set")
	}
}

// TestW0OtherKinds: no call panics at a selection of another kind, though nothing else is promised of one.
func TestW0OtherKinds(t *testing.T) {
	type other struct{ sel.Sel }
	there := sel.Whole(3)
	for _, s := range []sel.Sel{(*sel.Dense)(nil), (*sel.Sparse)(nil), &sel.Dense{}, &sel.Sparse{}, other{}, (*other)(nil), sel.Dense{Set: &bits.Set{}}} {
		for _, put := range puts {
			put.call(s)
			put.call(s, there)
			put.call(there, s)
		}
		sel.Less(s, there)
		sel.Less(there, s)
		sel.Not(s)
		sel.Same(s, there)
		sel.Same(there, s)
		sel.Cut(s, 0, 1)
	}
}

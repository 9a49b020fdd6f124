package sel_test

import (
	"math"
	"slices"
	"testing"

	"colonnade/api"
	"colonnade/bits"
	"colonnade/sel"
)

func TestP4_1Methods(t *testing.T) {
	for _, n := range lengths {
		for _, m := range models(n) {
			for _, s := range forms(t, m) {
				holds(t, "a selection", s, m)
			}
		}
	}
}

func TestP4_1HasFarAway(t *testing.T) {
	for _, n := range []int{1, 64, 320} {
		for _, m := range []model{modelOf(n, 0), where(n, func(int) bool { return true })} {
			for _, s := range forms(t, m) {
				for _, i := range []int{-1, -64, math.MinInt, n, n + 64, 1 << 32, math.MaxInt} {
					if s.Has(i) {
						t.Errorf("Has(%d) of length %d", i, n)
					}
				}
			}
		}
	}
}

func TestP4_1WalksLeftEarly(t *testing.T) {
	for _, m := range []model{modelOf(320, 3, 70, 319), modelOf(128), modelOf(4, 0, 3), where(100, func(i int) bool { return i%3 > 0 })} {
		for _, s := range forms(t, m) {
			walk, want := s.All(), m.rows()
			for k := range len(want) + 1 {
				var got []int
				for i := range walk {
					if len(got) == k {
						break
					}
					got = append(got, i)
				}
				if !slices.Equal(got, want[:k]) {
					t.Fatalf("%d rows of a walk: %v, not %v", k, got, want[:k])
				}
			}
			if got := slices.Collect(walk); !slices.Equal(got, want) {
				t.Fatalf("a walk behind others: %v, not %v", got, want)
			}
		}
	}
}

// walkedBy tells what a walk through s goes through, and does something at each row of it.
func walkedBy(s sel.Sel, do func(i int)) []int {
	var l []int
	for i := range s.All() {
		l = append(l, i)
		do(i)
	}
	return l
}

func TestP4_1PutMeanwhile(t *testing.T) {
	m := modelOf(100, 0, 1, 50, 63, 64, 99)
	d := dense(t, m)
	walk := d.All()
	got := walkedBy(d, func(i int) {
		d.Put(i, false)
		d.Put((i+1)%100, true)
		d.Put(99, false)
	})
	if !slices.Equal(got, m.rows()) {
		t.Errorf("a walk that began ahead of a Put: %v", got)
	}
	want := []int{0, 2, 51, 65} // 99 + 1 wraps round to 0; 1 and 64 are put away again when the walk is there
	if l := d.List(); !slices.Equal(l, want) {
		t.Errorf("behind the walk %v are chosen, not %v", l, want)
	}
	if got := slices.Collect(walk); !slices.Equal(got, want) {
		t.Errorf("a walk that begins behind the Puts: %v, not %v", got, want)
	}
}

func TestP4_1OfADenseAllMethodsOfItsSet(t *testing.T) {
	m := modelOf(70, 1, 5, 63, 64, 69)
	d := dense(t, m)
	o := bits.Of(modelOf(70, 5, 6)...)
	and, e := d.And(o)
	or, f := d.Or(o)
	if e != api.OK || f != api.OK || and.Count() != 1 || or.Count() != 6 {
		t.Error("And, Or")
	}
	if k, is := d.Select(2); k != 63 || !is || d.Rank(64) != 3 || !d.Get(69) || d.Get(70) {
		t.Error("Select, Rank, Get")
	}
	if len(d.Words()) != 2 || d.Slice(60, 66).Count() != 2 || d.Put(70, true) != api.ErrArg {
		t.Error("Words, Slice, Put")
	}
	if d.Len() != d.Set.Len() || d.Count() != d.Set.Count() || !slices.Equal(slices.Collect(d.All()), slices.Collect(d.Set.All())) {
		t.Error("Len, Count and All are not the set's own")
	}
	holds(t, "a Dense that was only asked", d, m)
}

func TestP4_2Make(t *testing.T) {
	if sel.Make(nil) != nil {
		t.Error("Make of no set is a selection")
	}
	same(t, "Make of a set's zero value", sel.Make(&bits.Set{}), model{})
	for _, n := range lengths {
		for _, m := range models(n) {
			s := bits.Of(m...)
			same(t, "Make", sel.Make(s), m)
			if !slices.Equal(slices.Collect(s.All()), m.rows()) {
				t.Fatal("Make turned its set")
			}
		}
	}
}

func TestP4_2PutLater(t *testing.T) {
	for _, n := range lengths[1:] {
		for _, m := range models(n) {
			s := bits.Of(m...)
			made, again := sel.Make(s), sel.Make(s)
			for i := range n {
				s.Put(i, !m[i])
			}
			same(t, "Make, and Puts of the set", made, m)
			if d, is := made.(sel.Dense); is {
				for i := range n {
					d.Put(i, false)
				}
				if s.Count() != n-len(m.rows()) {
					t.Fatal("a Put of the Dense turned the set of which it was made")
				}
			}
			same(t, "the other one that was made", again, m)
		}
	}
}

func TestP4_2ADenseStaysOne(t *testing.T) {
	for _, n := range lengths[1:] {
		s := sel.Whole(n)
		d, is := s.(sel.Dense)
		if !is {
			t.Fatalf("Whole(%d) is no Dense", n)
		}
		m := where(n, func(int) bool { return true })
		for i := range n {
			if e := d.Put(i, false); e != api.OK {
				t.Fatal(e)
			}
			m[i] = false
			holds(t, "a Dense from which is put", s, m)
		}
		if e := d.Put(n-1, true); e != api.OK || !isDense(s) {
			t.Fatal("a Dense does not stay one")
		}
		m[n-1] = true
		holds(t, "a Dense into which is put", s, m)
		if d.Put(n, true) != api.ErrArg || d.Put(-1, true) != api.ErrArg {
			t.Error("Put of what is no row")
		}
		holds(t, "a Dense into which could not be put", s, m)
	}
}

func TestP4_3At(t *testing.T) {
	for _, n := range lengths {
		for _, m := range models(n) {
			same(t, "At", at(t, n, m.rows()...), m)
		}
	}
}

func TestP4_3AtErrors(t *testing.T) {
	for _, n := range notLengths {
		for _, l := range [][]int{nil, {}, {0}, {-1}, {1, 0}, {n}} {
			if s, e := sel.At(n, l); s != nil || e != api.ErrArg {
				t.Errorf("At(%d, %v): %d", n, l, e)
			}
		}
	}
	for _, x := range []struct {
		n int
		l []int
	}{
		{0, []int{0}}, {0, []int{-1}}, {1, []int{1}}, {1, []int{0, 0}}, {2, []int{2}}, {2, []int{-1}}, {2, []int{1, 0}}, {2, []int{0, 0}},
		{2, []int{0, 1, 1}}, {2, []int{0, 1, 2}}, {64, []int{64}}, {64, []int{5, 63, 64}}, {64, []int{-1, 5}}, {64, []int{5, 4}},
		{320, []int{1, 2, 2}}, {320, []int{1, 3, 2}}, {320, []int{0, -1}}, {320, []int{1, 2, 3, 4, 5, 6, 7, 8, 9, 10, 11, 11}},
		{320, []int{math.MaxInt}}, {320, []int{math.MinInt}}, {320, []int{7, math.MinInt}}, {320, []int{math.MinInt, math.MaxInt}},
		{api.MaxRows, []int{api.MaxRows}}, {api.MaxRows, []int{api.MaxRows - 1, 0}},
	} {
		if s, e := sel.At(x.n, x.l); s != nil || e != api.ErrIndex {
			t.Errorf("At(%d, %v): %d", x.n, x.l, e)
		}
	}
}

func TestP4_3WholeAndNone(t *testing.T) {
	for _, n := range notLengths {
		if sel.Whole(n) != nil || sel.None(n) != nil {
			t.Errorf("Whole or None of %d", n)
		}
	}
	for _, n := range lengths {
		same(t, "Whole", sel.Whole(n), where(n, func(int) bool { return true }))
		same(t, "None", sel.None(n), make(model, n))
	}
}

func TestP4_3MaxRows(t *testing.T) {
	whole, none := sel.Whole(api.MaxRows), sel.None(api.MaxRows)
	if whole.Len() != api.MaxRows || whole.Count() != api.MaxRows || !isDense(whole) || !whole.Has(api.MaxRows-1) || whole.Has(api.MaxRows) {
		t.Error("Whole(MaxRows)")
	}
	if none.Len() != api.MaxRows || none.Count() != 0 || !isSparse(none) || none.Bits().Len() != api.MaxRows {
		t.Error("None(MaxRows)")
	}
	few := make([]int, api.MaxRows/32+1)
	for i := range few {
		few[i] = api.MaxRows - len(few) + i
	}
	most, more := at(t, api.MaxRows, few[1:]...), at(t, api.MaxRows, few...)
	if !isSparse(most) || most.Count() != api.MaxRows/32 || !most.Has(api.MaxRows-1) || !slices.Equal(most.List(), few[1:]) {
		t.Error("as many of MaxRows rows as a Sparse may have")
	}
	if !isDense(more) || more.Count() != api.MaxRows/32+1 || !more.Has(api.MaxRows-1) || more.Has(few[0]-1) {
		t.Error("one more of MaxRows rows than a Sparse may have")
	}
	less := must(t)(sel.Less(more, most))
	if l := less.List(); !isSparse(less) || !slices.Equal(l, few[:1]) {
		t.Error("Less of long ones")
	}
	if !sel.Same(sel.Not(whole), none) || !sel.Same(sel.Not(none), whole) || sel.Same(whole, none) {
		t.Error("Not and Same of long ones")
	}
	if cut := sel.Cut(most, api.MaxRows-3, math.MaxInt); cut.Len() != 3 || cut.Count() != 3 {
		t.Error("Cut of a long one")
	}
}

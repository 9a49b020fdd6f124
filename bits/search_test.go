package bits_test

import (
	"iter"
	"math"
	"slices"
	"testing"

	"colonnade/api"
	"colonnade/bits"
)

func TestP1_6Rank(t *testing.T) {
	for _, n := range lengths {
		for _, m := range models(n) {
			s, want := bits.Of(m...), 0
			for i := range n {
				if r := s.Rank(i); r != want {
					t.Fatalf("Rank(%d) of length %d: %d, not %d", i, n, r, want)
				}
				if m[i] {
					want++
				}
			}
			for _, i := range []int{n, n + 1, n + 63, n + 64, n + 65, 1 << 32, math.MaxInt} {
				if r := s.Rank(i); r != want {
					t.Fatalf("Rank(%d) of length %d: %d, not %d", i, n, r, want)
				}
			}
			for _, i := range []int{-1, -63, -64, -65, math.MinInt} {
				if r := s.Rank(i); r != 0 {
					t.Fatalf("Rank(%d) of length %d: %d", i, n, r)
				}
			}
		}
	}
}

func TestP1_6Select(t *testing.T) {
	for _, n := range lengths {
		for _, m := range models(n) {
			s, l := bits.Of(m...), m.held()
			for k, want := range l {
				if i, is := s.Select(k); i != want || !is {
					t.Fatalf("Select(%d) of length %d: %d %t, not %d", k, n, i, is, want)
				}
			}
			for _, k := range []int{-1, -64, math.MinInt, len(l), len(l) + 1, len(l) + 64, math.MaxInt} {
				if i, is := s.Select(k); i != 0 || is {
					t.Fatalf("Select(%d) of length %d: %d %t", k, n, i, is)
				}
			}
		}
	}
}

func TestP1_6AtMaxRows(t *testing.T) {
	s := full(t, api.MaxRows)
	if s.Count() != api.MaxRows || s.Rank(api.MaxRows-1) != api.MaxRows-1 || s.Rank(api.MaxRows+5) != api.MaxRows {
		t.Error("Count or Rank")
	}
	if i, is := s.Select(api.MaxRows - 1); i != api.MaxRows-1 || !is {
		t.Error("Select of the last one", i, is)
	}
	if i, is := s.Select(api.MaxRows); i != 0 || is {
		t.Error("Select behind the last one", i, is)
	}
}

func TestP1_7WalkSeesItsBeginning(t *testing.T) {
	for _, n := range []int{1, 63, 64, 65, 130} {
		for _, m := range models(n) {
			s := bits.Of(m...)
			var l []int
			for i := range s.All() {
				l = append(l, i)
				for j := range n {
					s.Put(j, !m[j])
				}
			}
			if !slices.Equal(l, m.held()) {
				t.Fatalf("a walk of length %d: %v, not %v", n, l, m.held())
			}
		}
	}
}

func TestP1_7EachWalkBeginsAnew(t *testing.T) {
	s := bits.Of(true, false, false)
	all := s.All()
	s.Put(1, true)
	if l := slices.Collect(all); !slices.Equal(l, []int{0, 1}) {
		t.Errorf("Put ahead of the first walk: %v", l)
	}
	s.Put(0, false)
	s.Put(2, true)
	if l := slices.Collect(all); !slices.Equal(l, []int{1, 2}) {
		t.Errorf("Put between two walks: %v", l)
	}
	var inner []int
	for range all {
		s.Put(0, true)
		inner = append(inner, slices.Collect(all)...)
	}
	if !slices.Equal(inner, []int{0, 1, 2, 0, 1, 2}) {
		t.Errorf("walks within a walk: %v", inner)
	}
}

func TestP1_7LeftEarly(t *testing.T) {
	for _, n := range lengths {
		for _, m := range models(n) {
			s, want := bits.Of(m...), m.held()
			all := s.All()
			for stop := 1; stop <= len(want); stop++ {
				var l []int
				all(func(i int) bool {
					l = append(l, i)
					return len(l) < stop
				})
				if !slices.Equal(l, want[:stop]) {
					t.Fatalf("left behind %d of length %d: %v", stop, n, l)
				}
			}
			same(t, "behind walks that were left", s, m)
		}
	}
}

func TestP1_7Pulled(t *testing.T) {
	s := bits.Of(true, true, true)
	next, stop := iter.Pull(s.All())
	defer stop()
	first, _ := next()
	s.Put(1, false)
	second, is := next()
	if first != 0 || second != 1 || !is {
		t.Error("a walk of single steps", first, second, is)
	}
}

func TestP1_7AtMaxRows(t *testing.T) {
	n := 0
	for i := range full(t, api.MaxRows).All() {
		if i != n {
			t.Fatalf("%d, not %d", i, n)
		}
		n++
	}
	if n != api.MaxRows {
		t.Errorf("%d numbers", n)
	}
}

func TestP1_11ThereAndBack(t *testing.T) {
	for _, n := range lengths {
		for _, m := range models(n) {
			s := bits.Of(m...)
			for k := range s.Count() {
				if i, is := s.Select(k); !is || s.Rank(i) != k {
					t.Fatalf("Rank(Select(%d)) of length %d", k, n)
				}
			}
			for i := -2; i < n+2; i++ {
				if s.Get(i) {
					if j, is := s.Select(s.Rank(i)); j != i || !is {
						t.Fatalf("Select(Rank(%d)) of length %d", i, n)
					}
				}
				if grows := s.Rank(i+1) - s.Rank(i); grows < 0 || grows > 1 || (grows == 1) != s.Get(i) {
					t.Fatalf("Rank behind %d of length %d grows by %d", i, n, grows)
				}
			}
		}
	}
}

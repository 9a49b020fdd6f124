package sel_test

import (
	"math"
	"math/rand/v2"
	"slices"
	"testing"

	"colonnade/api"
	"colonnade/bits"
	"colonnade/sel"
)

// lengths are those around which a word begins or ends, or a list may have one more row, and some between.
var lengths = []int{0, 1, 2, 31, 32, 33, 63, 64, 65, 95, 96, 97, 127, 128, 129, 200, 320}

// notLengths are numbers that are no length.
var notLengths = []int{-1, -32, -64, math.MinInt, api.MaxRows + 1, api.MaxRows + 64, 1 << 32, math.MaxInt}

// model is a plain reading of a selection: a bool a row.
type model []bool

// modelOf is the model of the length n in which these rows are chosen.
func modelOf(n int, rows ...int) model {
	m := make(model, n)
	for _, i := range rows {
		m[i] = true
	}
	return m
}

// where is the model of the length n in which those rows are chosen that is wants.
func where(n int, is func(i int) bool) model {
	m := make(model, n)
	for i := range m {
		m[i] = is(i)
	}
	return m
}

// rows are the chosen ones, rising.
func (m model) rows() []int {
	l := make([]int, 0, len(m))
	for i := range m {
		if !m[i] {
			continue
		}
		l = append(l, i)
	}
	return l
}

// isSparse is whether an answer of these rows is a Sparse.
func (m model) isSparse() bool { return 32*len(m.rows()) <= len(m) }

// models are selections of n rows: none, all, the ends, every other one, just as many as a list may have and one more (at the front and at the back), and some by chance (the same in each run).
func models(n int) []model {
	r := rand.New(rand.NewPCG(4, uint64(n)))
	return []model{
		where(n, func(i int) bool { return false }),
		where(n, func(i int) bool { return true }),
		where(n, func(i int) bool { return i == 0 || i == n-1 }),
		where(n, func(i int) bool { return i%2 == 1 }),
		where(n, func(i int) bool { return i < n/32 }),
		where(n, func(i int) bool { return i < n/32+1 }),
		where(n, func(i int) bool { return i >= n-n/32 }),
		where(n, func(i int) bool { return i >= n-n/32-1 }),
		where(n, func(i int) bool { return r.IntN(40) == 0 }),
		where(n, func(i int) bool { return r.IntN(2) == 0 }),
	}
}

// dense is a selection of the rows of m that stays a Dense, whatever they are: one of all rows, from which those are put that are not chosen. (A Dense of no rows is answered by no call.)
func dense(t *testing.T, m model) sel.Dense {
	t.Helper()
	d, is := sel.Whole(len(m)).(sel.Dense)
	if !is {
		t.Fatalf("Whole(%d) is no Dense", len(m))
	}
	for i, on := range m {
		if e := d.Put(i, on); e != api.OK {
			t.Fatalf("Put(%d) of length %d: %d", i, len(m), e)
		}
	}
	return d
}

// forms are selections of the rows of m in each form in which they can stand.
func forms(t *testing.T, m model) []sel.Sel {
	t.Helper()
	l := []sel.Sel{sel.Make(bits.Of(m...))}
	if len(m) > 0 && m.isSparse() {
		l = append(l, dense(t, m))
	}
	return l
}

// at is a selection by At that has no fault.
func at(t *testing.T, n int, rows ...int) sel.Sel {
	t.Helper()
	s, e := sel.At(n, rows)
	if e != api.OK || s == nil {
		t.Fatalf("At(%d, %v): %d", n, rows, e)
	}
	return s
}

// must takes what a call answers, and fails, unless it is a selection without an error.
func must(t *testing.T) func(s sel.Sel, e api.Errno) sel.Sel {
	return func(s sel.Sel, e api.Errno) sel.Sel {
		t.Helper()
		if e != api.OK || s == nil {
			t.Fatalf("error %d", e)
		}
		return s
	}
}

func isSparse(s sel.Sel) bool { _, is := s.(sel.Sparse); return is }

func isDense(s sel.Sel) bool { _, is := s.(sel.Dense); return is }

// holds fails, unless s is what m tells, by each of its methods.
func holds(t *testing.T, what string, s sel.Sel, m model) {
	t.Helper()
	if s == nil {
		t.Fatalf("%s: no selection", what)
	}
	want := m.rows()
	if s.Len() != len(m) || s.Count() != len(want) {
		t.Fatalf("%s: length %d, count %d, not %d, %d", what, s.Len(), s.Count(), len(m), len(want))
	}
	for i := -70; i < len(m)+70; i++ {
		if is := i >= 0 && i < len(m) && m[i]; s.Has(i) != is {
			t.Fatalf("%s: Has(%d) of length %d is not %t", what, i, len(m), is)
		}
	}
	if l := s.List(); !slices.Equal(l, want) {
		t.Fatalf("%s: list %v, not %v", what, l, want)
	}
	if l := slices.Collect(s.All()); !slices.Equal(l, want) {
		t.Fatalf("%s: walk %v, not %v", what, l, want)
	}
	b := s.Bits()
	if b == nil || b.Len() != len(m) || !slices.Equal(slices.Collect(b.All()), want) {
		t.Fatalf("%s: bits of length %d, %v, not %v", what, b.Len(), slices.Collect(b.All()), want)
	}
}

// same fails, unless s is what m tells, in the form of an answer.
func same(t *testing.T, what string, s sel.Sel, m model) {
	t.Helper()
	holds(t, what, s, m)
	if isSparse(s) != m.isSparse() || isDense(s) == m.isSparse() {
		t.Fatalf("%s: %d of %d rows: sparse %t", what, s.Count(), s.Len(), isSparse(s))
	}
}

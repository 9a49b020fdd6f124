package sel_test

import (
	"math"
	"testing"

	"colonnade/api"
	"colonnade/bits"
	"colonnade/sel"
)

// puts are the calls that put selections together, and what each asks of a row.
var puts = map[string]struct {
	call func(a sel.Sel, more ...sel.Sel) (sel.Sel, api.Errno)
	says func(x, y bool) bool
}{
	"Meet": {sel.Meet, func(x, y bool) bool { return x && y }},
	"Join": {sel.Join, func(x, y bool) bool { return x || y }},
}

func TestP4_4OfTwo(t *testing.T) {
	for _, n := range lengths {
		for _, x := range models(n) {
			for _, y := range models(n) {
				less := where(n, func(i int) bool { return x[i] && !y[i] })
				for _, a := range forms(t, x) {
					for _, b := range forms(t, y) {
						for name, put := range puts {
							want := where(n, func(i int) bool { return put.says(x[i], y[i]) })
							same(t, name, must(t)(put.call(a, b)), want)
						}
						same(t, "Less", must(t)(sel.Less(a, b)), less)
						holds(t, "the first one", a, x)
						holds(t, "the second one", b, y)
					}
				}
			}
		}
	}
}

func TestP4_4OfOne(t *testing.T) {
	for _, n := range lengths {
		for _, m := range models(n) {
			for _, a := range forms(t, m) {
				for name, put := range puts {
					same(t, name+" of one", must(t)(put.call(a)), m)
					same(t, name+" with itself", must(t)(put.call(a, a)), m)
					same(t, name+" with itself twice", must(t)(put.call(a, a, a)), m)
				}
				same(t, "Less of itself", must(t)(sel.Less(a, a)), make(model, n))
			}
		}
	}
}

func TestP4_4OfMany(t *testing.T) {
	for _, n := range []int{1, 33, 64, 320} {
		all := models(n)
		for from := range all {
			for upTo := from + 3; upTo <= len(all); upTo++ {
				lots := all[from:upTo]
				for name, put := range puts {
					var l [2][]sel.Sel
					want := lots[0]
					for _, m := range lots {
						want = where(n, func(i int) bool { return put.says(want[i], m[i]) })
						f := forms(t, m)
						l[0], l[1] = append(l[0], f[0]), append(l[1], f[len(f)-1])
					}
					same(t, name+" of many", must(t)(put.call(l[0][0], l[0][1:]...)), want)
					same(t, name+" of many, Dense where they can be", must(t)(put.call(l[1][0], l[1][1:]...)), want)
				}
			}
		}
	}
}

func TestP4_4Not(t *testing.T) {
	if sel.Not(nil) != nil {
		t.Error("Not of none")
	}
	for _, n := range lengths {
		for _, m := range models(n) {
			for _, a := range forms(t, m) {
				same(t, "Not", sel.Not(a), where(n, func(i int) bool { return !m[i] }))
				same(t, "Not of Not", sel.Not(sel.Not(a)), m)
				holds(t, "of which Not was asked", a, m)
			}
		}
	}
}

func TestP4_4Errors(t *testing.T) {
	four, five := at(t, 4, 0), at(t, 5, 0)
	sparse, longer := sel.None(64), sel.None(65)
	d := dense(t, modelOf(64, 3))
	for _, x := range []struct {
		l []sel.Sel
		e api.Errno
	}{
		{[]sel.Sel{nil}, api.ErrNil},
		{[]sel.Sel{nil, nil}, api.ErrNil},
		{[]sel.Sel{nil, four}, api.ErrNil},
		{[]sel.Sel{four, nil}, api.ErrNil},
		{[]sel.Sel{four, five, nil}, api.ErrNil},
		{[]sel.Sel{four, nil, five}, api.ErrNil},
		{[]sel.Sel{nil, four, five}, api.ErrNil},
		{[]sel.Sel{four, four, four, nil}, api.ErrNil},
		{[]sel.Sel{sparse, d, longer, nil}, api.ErrNil},
		{[]sel.Sel{four, five}, api.ErrSize},
		{[]sel.Sel{five, four}, api.ErrSize},
		{[]sel.Sel{four, four, five}, api.ErrSize},
		{[]sel.Sel{four, five, four}, api.ErrSize},
		{[]sel.Sel{five, four, four}, api.ErrSize},
		{[]sel.Sel{sel.None(0), sel.None(1)}, api.ErrSize},
		{[]sel.Sel{sparse, longer}, api.ErrSize},
		{[]sel.Sel{longer, sparse}, api.ErrSize},
		{[]sel.Sel{d, longer}, api.ErrSize},
		{[]sel.Sel{longer, d}, api.ErrSize},
		{[]sel.Sel{sparse, d, longer}, api.ErrSize},
		{[]sel.Sel{four, sel.None(api.MaxRows)}, api.ErrSize},
		{[]sel.Sel{sel.Whole(63), sel.Whole(64)}, api.ErrSize},
	} {
		for name, put := range puts {
			if s, e := put.call(x.l[0], x.l[1:]...); s != nil || e != x.e {
				t.Errorf("%s of %v: %d, not %d", name, x.l, e, x.e)
			}
		}
		if len(x.l) == 2 {
			if s, e := sel.Less(x.l[0], x.l[1]); s != nil || e != x.e {
				t.Errorf("Less of %v: %d, not %d", x.l, e, x.e)
			}
		}
	}
}

func TestP4_5Same(t *testing.T) {
	if !sel.Same(nil, nil) {
		t.Error("none and none")
	}
	for _, n := range lengths {
		for _, x := range models(n) {
			for _, a := range forms(t, x) {
				if sel.Same(a, nil) || sel.Same(nil, a) {
					t.Fatal("one that is there, and none")
				}
				longer := sel.Make(bits.Of(append(x[:n:n], false)...))
				if sel.Same(a, longer) || sel.Same(longer, a) {
					t.Fatalf("the same rows of %d and of one more", n)
				}
				for _, y := range models(n) {
					alike := true
					for i := range n {
						alike = alike && x[i] == y[i]
					}
					for _, b := range forms(t, y) {
						if sel.Same(a, b) != alike {
							t.Fatalf("Same of %v and %v of %d is not %t", x.rows(), y.rows(), n, alike)
						}
					}
				}
			}
		}
	}
}

func TestP4_5SameButOneRow(t *testing.T) {
	for _, n := range lengths {
		for _, m := range models(n) {
			for i := range n {
				y := append(model(nil), m...)
				y[i] = !y[i]
				if sel.Same(sel.Make(bits.Of(m...)), sel.Make(bits.Of(y...))) {
					t.Fatalf("Same, though the row %d of %d is not", i, n)
				}
			}
		}
	}
}

// cut is a plain reading of Cut.
func cut(m model, from, to int) model {
	from = min(max(from, 0), len(m))
	to = max(min(max(to, 0), len(m)), from)
	return m[from:to]
}

func TestP4_5Cut(t *testing.T) {
	for _, n := range []int{0, 1, 31, 32, 33, 63, 64, 65, 200} {
		ends := []int{math.MinInt, -1, 0, 1, 2, 31, 32, 33, 63, 64, 65, n / 2, n - 1, n, n + 1, math.MaxInt}
		for _, m := range models(n) {
			for _, a := range forms(t, m) {
				for _, from := range ends {
					for _, to := range ends {
						same(t, "Cut", sel.Cut(a, from, to), cut(m, from, to))
					}
				}
				holds(t, "which was cut", a, m)
			}
		}
	}
	for _, x := range [][2]int{{0, 0}, {0, 1}, {-1, 3}, {3, -1}, {math.MinInt, math.MaxInt}} {
		if sel.Cut(nil, x[0], x[1]) != nil {
			t.Errorf("Cut of none from %d to %d", x[0], x[1])
		}
	}
}

// TestExamples: those of the chapter.
func TestExamples(t *testing.T) {
	a, b := at(t, 4, 0, 1, 2), at(t, 4, 1, 3)
	same(t, "Meet", must(t)(sel.Meet(a, b)), modelOf(4, 1))
	same(t, "Join", must(t)(sel.Join(a, b)), modelOf(4, 0, 1, 2, 3))
	same(t, "Less", must(t)(sel.Less(a, b)), modelOf(4, 0, 2))
	same(t, "Not", sel.Not(b), modelOf(4, 0, 2))
	same(t, "Meet of one", must(t)(sel.Meet(at(t, 4, 0))), modelOf(4, 0))
	same(t, "Cut", sel.Cut(at(t, 9, 2, 5, 8), 5, 99), modelOf(4, 0, 3))
	if !isSparse(at(t, 64, 5, 63)) || !isDense(at(t, 64, 1, 2, 3)) || !isSparse(sel.Make(bits.Of(modelOf(64, 5)...))) {
		t.Error("forms of 64 rows")
	}
	if !isSparse(sel.Whole(0)) || !isDense(sel.Whole(3)) || !isSparse(sel.None(3)) {
		t.Error("forms of Whole and None")
	}
	if !sel.Same(at(t, 3, 1), sel.Make(bits.Of(false, true, false))) || sel.Same(sel.None(3), sel.None(4)) {
		t.Error("Same")
	}
}

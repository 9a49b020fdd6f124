package sel_test

import (
	"testing"

	"colonnade/api"
	"colonnade/bits"
	"colonnade/sel"
)

// alike fails, unless two selections have one length, the same rows and the same form.
func alike(t *testing.T, law string, a, b sel.Sel) {
	t.Helper()
	if a == nil || b == nil || !sel.Same(a, b) || isSparse(a) != isSparse(b) {
		t.Fatalf("%s: %v, %v", law, a.List(), b.List())
	}
}

// few are models of n rows that can stand in both forms.
func few(n int) []model {
	var l []model
	for _, m := range models(n) {
		if m.isSparse() {
			l = append(l, m)
		}
	}
	return l
}

func TestP4_6TheFormIsNotSeen(t *testing.T) {
	for _, n := range []int{1, 32, 33, 64, 96, 320} {
		for _, m := range few(n) {
			s, d := sel.Make(bits.Of(m...)), dense(t, m)
			if !isSparse(s) || !sel.Same(s, d) || !sel.Same(d, s) {
				t.Fatalf("a Sparse and a Dense of %v", m.rows())
			}
			alike(t, "Not", sel.Not(s), sel.Not(d))
			alike(t, "Make of Bits", sel.Make(s.Bits()), sel.Make(d.Bits()))
			alike(t, "Cut", sel.Cut(s, n/3, n-1), sel.Cut(d, n/3, n-1))
			for _, y := range models(n) {
				for _, b := range forms(t, y) {
					for name, put := range puts {
						alike(t, name, must(t)(put.call(s, b)), must(t)(put.call(d, b)))
						alike(t, name, must(t)(put.call(b, s)), must(t)(put.call(b, d)))
						alike(t, name, must(t)(put.call(b, b, s)), must(t)(put.call(b, b, d)))
					}
					alike(t, "Less", must(t)(sel.Less(s, b)), must(t)(sel.Less(d, b)))
					alike(t, "Less", must(t)(sel.Less(b, s)), must(t)(sel.Less(b, d)))
					if sel.Same(s, b) != sel.Same(d, b) {
						t.Fatal("Same hangs on the form")
					}
				}
			}
			for name, put := range puts {
				other := sel.None(n + 1)
				if _, e := put.call(d, other); e != api.ErrSize {
					t.Fatalf("%s of a Dense and a longer one: %d", name, e)
				}
				if _, e := put.call(s, other); e != api.ErrSize {
					t.Fatalf("%s of a Sparse and a longer one: %d", name, e)
				}
			}
		}
	}
}

func TestP4_7Algebra(t *testing.T) {
	meet := func(a sel.Sel, more ...sel.Sel) sel.Sel { t.Helper(); return must(t)(sel.Meet(a, more...)) }
	join := func(a sel.Sel, more ...sel.Sel) sel.Sel { t.Helper(); return must(t)(sel.Join(a, more...)) }
	for _, n := range []int{0, 1, 32, 64, 97, 320} {
		var all []sel.Sel
		for _, m := range models(n) {
			all = append(all, forms(t, m)...)
		}
		whole, none := sel.Whole(n), sel.None(n)
		for _, a := range all {
			alike(t, "a and not a", meet(a, sel.Not(a)), none)
			alike(t, "a or not a", join(a, sel.Not(a)), whole)
			alike(t, "a and all", meet(a, whole), meet(a))
			alike(t, "a or none", join(a, none), join(a))
			for _, b := range all {
				alike(t, "Meet in any order", meet(a, b), meet(b, a))
				alike(t, "Join in any order", join(a, b), join(b, a))
				alike(t, "not of Meet", sel.Not(meet(a, b)), join(sel.Not(a), sel.Not(b)))
				alike(t, "not of Join", sel.Not(join(a, b)), meet(sel.Not(a), sel.Not(b)))
				alike(t, "Less", must(t)(sel.Less(a, b)), meet(a, sel.Not(b)))
				if join(a, b).Count()+meet(a, b).Count() != a.Count()+b.Count() {
					t.Fatalf("counts of length %d", n)
				}
				c := all[(len(all)*2)/3]
				alike(t, "Meet in any grouping", meet(a, b, c), meet(a, meet(b, c)))
				alike(t, "Join in any grouping", join(a, b, c), join(a, join(b, c)))
				alike(t, "Meet of three in another order", meet(a, b, c), meet(c, a, b))
				alike(t, "Join of three in another order", join(a, b, c), join(c, a, b))
				alike(t, "Meet over Join", meet(a, join(b, c)), join(meet(a, b), meet(a, c)))
				alike(t, "Join over Meet", join(a, meet(b, c)), meet(join(a, b), join(a, c)))
			}
		}
	}
}

func TestP4_7ThereAndBack(t *testing.T) {
	for _, n := range lengths {
		for _, m := range models(n) {
			for _, s := range forms(t, m) {
				if !sel.Same(sel.Make(s.Bits()), s) || !sel.Same(at(t, s.Len(), s.List()...), s) {
					t.Fatalf("%v of %d does not come back", m.rows(), n)
				}
			}
		}
	}
}

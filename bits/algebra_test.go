package bits_test

import (
	"testing"

	"colonnade/api"
	"colonnade/bits"
)

// puts are the four ways in which s is put together with another set.
func puts(s *bits.Set) map[string]func(*bits.Set) (*bits.Set, api.Errno) {
	return map[string]func(*bits.Set) (*bits.Set, api.Errno){"And": s.And, "Or": s.Or, "Xor": s.Xor, "Less": s.Less}
}

// says is what each of them asks of a number.
var says = map[string]func(x, y bool) bool{
	"And":  func(x, y bool) bool { return x && y },
	"Or":   func(x, y bool) bool { return x || y },
	"Xor":  func(x, y bool) bool { return x != y },
	"Less": func(x, y bool) bool { return x && !y },
}

func TestP1_5Puts(t *testing.T) {
	for _, n := range lengths {
		for _, a := range models(n) {
			for _, b := range models(n) {
				for name, put := range puts(bits.Of(a...)) {
					want := make(model, n)
					for i := range want {
						want[i] = says[name](a[i], b[i])
					}
					r, e := put(bits.Of(b...))
					if e != api.OK {
						t.Fatalf("%s of length %d: %d", name, n, e)
					}
					same(t, name, r, want)
				}
			}
		}
	}
}

func TestP1_5WithItself(t *testing.T) {
	for _, n := range lengths {
		for _, m := range models(n) {
			s := bits.Of(m...)
			for name, put := range puts(s) {
				want := make(model, n)
				for i := range want {
					want[i] = says[name](m[i], m[i])
				}
				r, e := put(s)
				if e != api.OK || r == s {
					t.Fatalf("%s with itself: %d", name, e)
				}
				same(t, name+" with itself", r, want)
			}
		}
	}
}

func TestP1_5Errors(t *testing.T) {
	var none *bits.Set
	sizes := [][2]int{{0, 1}, {1, 0}, {1, 2}, {63, 64}, {64, 65}, {65, 64}, {1, 64}, {128, 64}, {api.MaxRows, 1}}
	for _, x := range sizes {
		for name, put := range puts(bits.New(x[0])) {
			if r, e := put(bits.New(x[1])); r != nil || e != api.ErrSize {
				t.Errorf("%s of lengths %v: %d", name, x, e)
			}
			if r, e := put(nil); r != nil || e != api.ErrNil {
				t.Errorf("%s with none: %d", name, e)
			}
		}
		for name, put := range puts(none) {
			if r, e := put(bits.New(x[1])); r != nil || e != api.ErrNil {
				t.Errorf("%s of none: %d", name, e)
			}
		}
	}
	for name, put := range puts(none) {
		if r, e := put(nil); r != nil || e != api.ErrNil {
			t.Errorf("%s of none with none: %d", name, e)
		}
	}
}

func TestP1_5Not(t *testing.T) {
	for _, n := range lengths {
		for _, m := range models(n) {
			want := make(model, n)
			for i := range want {
				want[i] = !m[i]
			}
			same(t, "Not", bits.Of(m...).Not(), want)
		}
	}
	s := bits.New(api.MaxRows - 1).Not()
	if s.Count() != api.MaxRows-1 || s.Get(api.MaxRows-1) || !s.Get(0) || !s.Get(api.MaxRows-2) {
		t.Error("Not of a long one")
	}
}

// must is a set that was put together without an error.
func must(t *testing.T, s *bits.Set, e api.Errno) *bits.Set {
	t.Helper()
	if e != api.OK {
		t.Fatalf("error %d", e)
	}
	return s
}

// alike fails, unless two sets have one length and hold the same.
func alike(t *testing.T, law string, a, b *bits.Set) {
	t.Helper()
	same(t, law, a, modelOf(b))
}

func TestP1_10Algebra(t *testing.T) {
	for _, n := range []int{0, 1, 63, 64, 65, 130} {
		and := func(a, b *bits.Set) *bits.Set { r, e := a.And(b); return must(t, r, e) }
		or := func(a, b *bits.Set) *bits.Set { r, e := a.Or(b); return must(t, r, e) }
		xor := func(a, b *bits.Set) *bits.Set { r, e := a.Xor(b); return must(t, r, e) }
		less := func(a, b *bits.Set) *bits.Set { r, e := a.Less(b); return must(t, r, e) }
		for _, x := range models(n) {
			a := bits.Of(x...)
			alike(t, "a and not a", and(a, a.Not()), bits.New(n))
			alike(t, "a or not a", or(a, a.Not()), bits.New(n).Not())
			alike(t, "not not a", a.Not().Not(), a)
			for _, y := range models(n) {
				b := bits.Of(y...)
				alike(t, "and in any order", and(a, b), and(b, a))
				alike(t, "or in any order", or(a, b), or(b, a))
				alike(t, "not of and", and(a, b).Not(), or(a.Not(), b.Not()))
				alike(t, "not of or", or(a, b).Not(), and(a.Not(), b.Not()))
				alike(t, "less", less(a, b), and(a, b.Not()))
				alike(t, "xor", xor(a, b), less(or(a, b), and(a, b)))
				if or(a, b).Count()+and(a, b).Count() != a.Count()+b.Count() {
					t.Fatalf("counts of length %d", n)
				}
				for _, z := range models(n) {
					c := bits.Of(z...)
					alike(t, "and in any grouping", and(a, and(b, c)), and(and(a, b), c))
					alike(t, "or in any grouping", or(a, or(b, c)), or(or(a, b), c))
					alike(t, "and over or", and(a, or(b, c)), or(and(a, b), and(a, c)))
					alike(t, "or over and", or(a, and(b, c)), and(or(a, b), or(a, c)))
				}
			}
		}
	}
}

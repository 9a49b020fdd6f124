package atom_test

import (
	"math"
	"slices"
	"testing"

	"colonnade/api"
	"colonnade/atom"
)

func mustBound(t *testing.T, p api.Pred, lo, hi api.Value, ok bool) {
	t.Helper()
	if l, h, is := atom.Bounds(p); is != ok || !sameValue(l, lo) || !sameValue(h, hi) {
		t.Fatalf("Bounds(%s) = %s, %s, %v; want %s, %s, %v", brief(p), brief(l), brief(h), is, brief(lo), brief(hi), ok)
	}
}

func mustNotBound(t *testing.T, p api.Pred) {
	t.Helper()
	mustBound(t, p, null, null, false)
}

// columnValues are all that a column can have, but Null.
func columnValues() []api.Value { return slices.Concat(intValues(), textValues()) }

// TestP18_4Compare: by each Op, of each value; the column's name may be any.
func TestP18_4Compare(t *testing.T) {
	for _, name := range []string{"a", "", "9 é"} {
		for _, v := range columnValues() {
			mustBound(t, compared(name, api.Eq, v), v, v, true)
			mustNotBound(t, compared(name, api.Ne, v))
			mustBound(t, compared(name, api.Lt, v), null, v, true)
			mustBound(t, compared(name, api.Le, v), null, v, true)
			mustBound(t, compared(name, api.Gt, v), v, null, true)
			mustBound(t, compared(name, api.Ge, v), v, null, true)
			for _, op := range wrongOps() {
				mustNotBound(t, compared(name, op, v))
			}
		}
	}
}

// TestP18_4Between: the two as they stand, whatever their order.
func TestP18_4Between(t *testing.T) {
	for _, l := range [][]api.Value{intValues(), textValues()} {
		for _, v := range l {
			for _, w := range l {
				mustBound(t, between("a", v, w), v, w, true)
			}
		}
	}
	for _, l := range [][]api.Value{nil, {}, nums(5), nums(3, 5, 7), words("a"), words("a", "b", "c"), {num(5), word("a")}, {word("a"), num(5)}, {num(5), null}, {null, num(5)}, {null, null}} {
		mustNotBound(t, between("a", l...))
	}
}

// TestP18_4In: lists that do not rise, that have a value twice, and texts that begin with one another.
func TestP18_4In(t *testing.T) {
	for _, x := range []struct{ l, ends []api.Value }{
		{nums(5), nums(5, 5)}, {nums(5, 5), nums(5, 5)}, {nums(3, 7), nums(3, 7)}, {nums(7, 3), nums(3, 7)}, {nums(5, 3, 7), nums(3, 7)}, {nums(5, 7, 3), nums(3, 7)}, {nums(3, 7, 5), nums(3, 7)}, {nums(7, 3, 7, 3), nums(3, 7)}, {nums(7, 7, 3, 5, 3), nums(3, 7)},
		{nums(0, -1, math.MaxInt64, math.MinInt64, 1), nums(math.MinInt64, math.MaxInt64)}, {nums(-5, -50), nums(-50, -5)},
		{words("qu", "q", "quo"), words("q", "quo")}, {words("quo", "qu"), words("qu", "quo")}, {words("a", ""), words("", "a")}, {words("b", "aa"), words("aa", "b")}, {words("é", "z", "\xff"), words("z", "\xff")}, {words("a\x00", "a", "a"), words("a", "a\x00")}, {words("x"), words("x", "x")},
		{words(longest('a'), longest('a')[1:]+"b", longest('a')[1:]), words(longest('a')[1:], longest('a')[1:]+"b")},
	} {
		mustBound(t, in("a", x.l...), x.ends[0], x.ends[1], true)
	}
	mustBound(t, in("a", intValues()...), num(math.MinInt64), num(math.MaxInt64), true)
	mustBound(t, in("a", textValues()...), word(""), word(longest(0xff)), true)
	mustNotBound(t, in("a"))
	mustNotBound(t, in("", []api.Value{}...))
}

// TestP18_4InLength: up to MaxList values, the ends at any place.
func TestP18_4InLength(t *testing.T) {
	for _, n := range []int{1, 2, 3, 1023, 1024} {
		for _, i := range []int{0, n / 3, n - 1} {
			l := slices.Repeat(nums(5), n)
			l[i] = num(-9)
			l[n-1-i] = num(9)
			mustBound(t, in("a", l...), slices.MinFunc(l, order), slices.MaxFunc(l, order), true)
		}
	}
	for _, n := range []int{1025, 1026, 4096} {
		mustNotBound(t, in("a", slices.Repeat(nums(5), n)...))
		mustNotBound(t, in("a", slices.Repeat(words("x"), n)...))
	}
}

func TestP18_4Begins(t *testing.T) {
	for _, v := range textValues() {
		mustBound(t, begins("a", v), v, null, true)
	}
	for _, v := range slices.Concat(list(null), intValues(), realValues(), badValues()) {
		mustNotBound(t, begins("a", v))
	}
}

// TestP18_4Wrong: what may be for a column of neither type has no bounds, though some values in it would tell some.
func TestP18_4Wrong(t *testing.T) {
	mustNotBound(t, isNull("a"))
	for _, v := range slices.Concat(list(null), realValues(), badValues()) {
		for _, op := range ops() {
			mustNotBound(t, compared("a", op, v))
		}
		for _, p := range []api.Pred{in("a", v), in("a", num(5), v), in("a", v, word("x")), between("a", v, v), between("a", num(5), v), between("a", v, word("x"))} {
			mustNotBound(t, p)
		}
	}
	mustNotBound(t, in("a", num(5), word("x")))
	mustNotBound(t, in("a", word("x"), num(5), word("y")))
	for _, p := range coreOf("a") {
		p.Kids = []api.Pred{{}}
		mustNotBound(t, p)
	}
	for _, kind := range otherKinds() {
		for _, p := range coreOf("a") {
			p.Kind = kind
			mustNotBound(t, p)
		}
	}
}

func TestP18_4AsPlain(t *testing.T) {
	for _, p := range allPreds("a") {
		lo, hi, ok := plainBounds(p)
		mustBound(t, p, lo, hi, ok)
	}
	r := byChance(5)
	met := 0
	for range 30000 {
		p := somePred(r, []string{"a", ""})
		lo, hi, ok := plainBounds(p)
		if ok {
			met++
		}
		mustBound(t, p, lo, hi, ok)
	}
	if met < 5000 {
		t.Errorf("bounds came but %d times", met)
	}
}

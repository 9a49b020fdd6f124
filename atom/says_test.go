package atom_test

import (
	"math"
	"slices"
	"testing"

	"colonnade/api"
	"colonnade/atom"
)

func mustSay(t *testing.T, p api.Pred, v api.Value, want api.Truth) {
	t.Helper()
	if got := atom.Test(p, v); got != want {
		t.Fatalf("Test(%s, %s) = %d; want %d", brief(p), brief(v), got, want)
	}
}

// TestP18_2EveryAtom: every predicate of these tests of every value, as the plain reading has it. The column's name is not asked.
func TestP18_2EveryAtom(t *testing.T) {
	for _, name := range []string{"a", ""} {
		for _, p := range allPreds(name) {
			for _, v := range allValues() {
				mustSay(t, p, v, plainTest(p, v))
			}
		}
	}
}

// TestP18_2NoAtom: of what is no atom No is said, of Null too, whatever stands in it.
func TestP18_2NoAtom(t *testing.T) {
	for _, kind := range otherKinds() {
		for _, p := range slices.Concat(coreOf("a"), filled(isNull("a"))) {
			p.Kind = kind
			for _, v := range allValues() {
				mustSay(t, p, v, api.No)
			}
		}
	}
}

// TestP18_2WhatMayNotBe: of a value that may not be No is said, of a Null that may not be too, by any atom.
func TestP18_2WhatMayNotBe(t *testing.T) {
	for _, v := range badValues() {
		for _, op := range slices.Concat(ops(), wrongOps()) {
			mustSay(t, compared("a", op, v), v, api.No)
			mustSay(t, compared("a", op, num(5)), v, api.No)
		}
		for _, p := range []api.Pred{in("a", v), in("a", v, num(5), v), between("a", v, v), between("a", null, word("\xff")), isNull("a"), begins("a", v), begins("a", word(""))} {
			mustSay(t, p, v, api.No)
		}
	}
}

// TestP18_2Null: every atom but PredNull is Maybe of Null, also such as may be for no column.
func TestP18_2Null(t *testing.T) {
	mustSay(t, isNull("a"), null, api.Yes)
	for _, p := range filled(isNull("a")) {
		mustSay(t, p, null, api.Yes)
	}
	for _, kind := range []int{1, 2, 3, 5} {
		mustSay(t, api.Pred{Kind: kind}, null, api.Maybe)
		for _, p := range filled(api.Pred{Kind: kind, Column: "a"}) {
			mustSay(t, p, null, api.Maybe)
		}
	}
	for _, p := range []api.Pred{compared("a", api.Eq, null), compared("a", 7, null), in("a", null), in("a"), between("a", null, null), between("a"), begins("a", null)} {
		mustSay(t, p, null, api.Maybe)
	}
}

// TestP18_2NotNull: PredNull says No of every other value.
func TestP18_2NotNull(t *testing.T) {
	for _, v := range goodValues()[1:] {
		mustSay(t, isNull("a"), v, api.No)
		for _, p := range filled(isNull("a")) {
			mustSay(t, p, v, api.No)
		}
	}
}

// TestP18_2Compare: the six Ops, written out, of values that are ahead, alike and behind.
func TestP18_2Compare(t *testing.T) {
	stands := []struct {
		a, b api.Value
		c    int
	}{
		{num(4), num(5), -1}, {num(5), num(5), 0}, {num(6), num(5), 1}, {num(math.MinInt64), num(math.MaxInt64), -1}, {num(math.MaxInt64), num(math.MinInt64), 1},
		{num(5), float(5), -1}, {float(5), num(5), 1}, {float(5), float(5), 0}, {num(1<<53 + 1), float(1 << 53), 1}, {num(math.MaxInt64), float(1 << 63), -1},
		{num(5), word(""), -1}, {word(""), num(5), 1}, {word(""), float(5), 1}, {word("a"), word(""), 1}, {word("qu"), word("quo"), -1}, {word("b"), word("aa"), 1}, {word("x"), word("x"), 0}, {word("\x7f"), word("\xff"), -1},
		{num(5), null, 1}, {word(""), null, 1}, {float(-5), null, 1},
		{num(5), api.Value{Kind: 1, Int: 9, Text: "a"}, 1}, {word("a"), word(longest('z') + "z"), 1}, {num(5), api.Value{Kind: -9}, 1}, {num(5), float(math.NaN()), 1}, {num(5), float(math.Inf(1)), 1},
	}
	yes := map[int][]int{-1: {api.Ne, api.Lt, api.Le}, 0: {api.Eq, api.Le, api.Ge}, 1: {api.Ne, api.Gt, api.Ge}}
	for _, x := range stands {
		for _, op := range slices.Concat(ops(), wrongOps()) {
			want := api.No
			if slices.Contains(yes[x.c], op) {
				want = api.Yes
			}
			mustSay(t, compared("a", op, x.b), x.a, want)
		}
	}
}

// TestP18_2In: alike to one of a list, at whatever place, the list in whatever order and however long.
func TestP18_2In(t *testing.T) {
	l := list(num(7), word("qu"), num(3), float(5), null, api.Value{Kind: 9}, num(3), word(""))
	for _, v := range list(num(7), word("qu"), num(3), float(5), word("")) {
		mustSay(t, in("a", l...), v, api.Yes)
		mustSay(t, in("a", v), v, api.Yes)
		mustSay(t, in("a"), v, api.No)
	}
	for _, v := range list(num(5), float(3), float(7), word("q"), word("quo"), word("\x00"), num(0)) {
		mustSay(t, in("a", l...), v, api.No)
	}
	for _, n := range []int{1024, 1025, 5000} {
		many := make([]api.Value, n)
		for i := range many {
			many[i] = num(int64(n - i))
		}
		for _, i := range []int64{0, 1, 2, int64(n / 2), int64(n), int64(n + 1)} {
			mustSay(t, in("a", many...), num(i), plainTest(in("a", many...), num(i)))
		}
		mustSay(t, in("a", many...), num(1), api.Yes)
		mustSay(t, in("a", many...), num(int64(n)), api.Yes)
	}
}

// TestP18_2Between: both ends are within; of lists of fewer than two nothing is, of longer ones the first two count.
func TestP18_2Between(t *testing.T) {
	for i := range int64(12) {
		want := api.No
		if i >= 3 && i <= 7 {
			want = api.Yes
		}
		for _, l := range [][]api.Value{nums(3, 7), nums(3, 7, 5), nums(3, 7, 100, 0), list(num(3), num(7), null), list(num(3), float(7)), list(float(2.5), num(7)), list(num(3), float(7.5))} {
			mustSay(t, between("a", l...), num(i), want)
		}
		for _, l := range [][]api.Value{nil, {}, nums(5), nums(7, 3), nums(7, 3, 5), nums(7, 3, 0, 100), list(num(3), null), list(num(3), api.Value{Kind: 9}), list(word(""), word("z"))} {
			mustSay(t, between("a", l...), num(i), api.No)
		}
		mustSay(t, between("a", null, num(7)), num(i), plainTest(compared("a", api.Le, num(7)), num(i)))
		mustSay(t, between("a", api.Value{Int: 1}, word("")), num(i), api.Yes)
		mustSay(t, between("a", num(i), num(i)), num(i), api.Yes)
	}
	mustSay(t, between("a", num(5), word("")), float(1e300), api.Yes)
	mustSay(t, between("a", num(5), float(5)), num(5), api.Yes)
	mustSay(t, between("a", float(5), num(5)), num(5), api.No)
}

// TestP18_2Begins: Texts alone, to the last byte; what else stands in the atom's Value is not asked.
func TestP18_2Begins(t *testing.T) {
	for _, s := range []string{"", "q", "qu", "quo", "quote"} {
		mustSay(t, begins("a", word(s)), word("quote"), api.Yes)
		mustSay(t, begins("a", api.Value{Kind: 2, Text: s, Int: 5, Real: math.NaN()}), word("quote"), api.Yes)
		mustSay(t, begins("a", api.Value{Kind: 2, Text: s, Int: 5}), api.Value{Kind: 2, Text: "quote", Int: 5}, api.No)
		for _, kind := range []int{0, 1, 3, 4, -2, 258} {
			mustSay(t, begins("a", api.Value{Kind: kind, Text: s}), word("quote"), api.No)
		}
	}
	for _, s := range []string{"quotes", "quote\x00", "Q", "u", "uote", "que", "\x00", "quotequote", longest('q'), longest('q') + "q"} {
		mustSay(t, begins("a", word(s)), word("quote"), api.No)
	}
	for _, v := range slices.Concat(intValues(), realValues()) {
		mustSay(t, begins("a", word("")), v, api.No)
		mustSay(t, begins("a", v), v, api.No)
	}
	mustSay(t, begins("a", word(longest('a'))), word(longest('a')), api.Yes)
	mustSay(t, begins("a", word(longest('a')[1:])), word(longest('a')), api.Yes)
	mustSay(t, begins("a", word(longest('a'))), word(longest('a')[1:]), api.No)
	mustSay(t, begins("a", word(longest('a')[1:]+"b")), word(longest('a')), api.No)
	mustSay(t, begins("a", word("\xc3")), word("é"), api.Yes)
}

func TestP18_2ByChance(t *testing.T) {
	r := byChance(3)
	met := map[api.Truth]int{}
	for range 100000 {
		p, v := somePred(r, []string{"a", ""}), someValue(r)
		want := plainTest(p, v)
		met[want]++
		mustSay(t, p, v, want)
	}
	for _, truth := range []api.Truth{api.No, api.Yes, api.Maybe} {
		if met[truth] < 5000 {
			t.Errorf("%d came but %d times", truth, met[truth])
		}
	}
}

package atom_test

import (
	"math"
	"slices"
	"strings"
	"testing"

	"colonnade/api"
	"colonnade/atom"
)

// wrongTypes are neither Int nor Text.
func wrongTypes() []int {
	return []int{0, 3, 4, -1, -2, 256, 257, 258, 1<<32 + 1, 1<<32 + 2, math.MinInt, math.MaxInt}
}

// twoColumns are those of most tests.
func twoColumns() []api.Column {
	return []api.Column{{Name: "a", Type: api.Int}, {Name: "t", Type: api.Text, Null: true}}
}

func mustCheck(t *testing.T, cols []api.Column, p api.Pred, want api.Errno) {
	t.Helper()
	if e := atom.Check(cols, p); e != want {
		t.Fatalf("Check(%s, %s) = %d; want %d", brief(cols), brief(p), e, want)
	}
}

// ofType is a right column of a type, and values of it: one, three, and MaxList of them.
func ofType(kind int) (name string, one api.Value, three, many []api.Value) {
	name, three = "a", nums(7, 3, 5)
	if kind == api.Text {
		name, three = "t", words("q", "", "qu")
	}
	return name, three[0], three, slices.Repeat(three, 342)[:1024]
}

func TestP18_1Good(t *testing.T) {
	for _, kind := range []int{api.Int, api.Text} {
		name, _, three, many := ofType(kind)
		for _, p := range goodPreds(name, kind) {
			mustCheck(t, twoColumns(), p, api.OK)
		}
		for n := range three {
			mustCheck(t, twoColumns(), in(name, three[:n]...), api.OK)
		}
		mustCheck(t, twoColumns(), in(name, three...), api.OK)
		mustCheck(t, twoColumns(), in(name, many[:1023]...), api.OK)
		mustCheck(t, twoColumns(), in(name, many...), api.OK)
	}
}

// TestP18_1Kinds: every Kind that is no atom's, whatever else stands there.
func TestP18_1Kinds(t *testing.T) {
	for _, kind := range otherKinds() {
		for _, p := range slices.Concat(coreOf("a"), coreOf("t"), coreOf("z")) {
			p.Kind = kind
			mustCheck(t, twoColumns(), p, api.ErrOp)
			for _, q := range filled(p) {
				mustCheck(t, twoColumns(), q, api.ErrOp)
			}
		}
	}
	mustCheck(t, nil, api.Pred{}, api.ErrOp)
}

// TestP18_1Ops: an Op counts of PredCompare alone; of the others it is a field that must be zero.
func TestP18_1Ops(t *testing.T) {
	for _, op := range ops() {
		mustCheck(t, twoColumns(), compared("a", op, num(5)), api.OK)
		mustCheck(t, twoColumns(), compared("t", op, word("x")), api.OK)
	}
	for _, op := range wrongOps() {
		mustCheck(t, twoColumns(), compared("a", op, num(5)), api.ErrOp)
		mustCheck(t, twoColumns(), compared("t", op, word("x")), api.ErrOp)
	}
	for _, op := range slices.Concat(ops(), wrongOps()) {
		for _, p := range []api.Pred{in("a"), in("a", num(5)), between("a", nums(3, 7)...), isNull("a"), isNull("t"), begins("t", word("x"))} {
			p.Op = op
			want := api.ErrArg
			if op == 0 {
				want = api.OK
			}
			mustCheck(t, twoColumns(), p, want)
		}
	}
}

// TestP18_1Begins: only a Text begins so; of a column that is not there that is not said.
func TestP18_1Begins(t *testing.T) {
	p := begins("c", word("x"))
	mustCheck(t, []api.Column{{Name: "c", Type: api.Text}}, p, api.OK)
	mustCheck(t, []api.Column{{Name: "c", Type: api.Int}}, p, api.ErrOp)
	for _, kind := range wrongTypes() {
		mustCheck(t, []api.Column{{Name: "c", Type: kind}}, p, api.ErrOp)
		mustCheck(t, []api.Column{{Name: "c", Type: kind, Null: true}}, p, api.ErrOp)
	}
	mustCheck(t, []api.Column{{Name: "d", Type: api.Int}}, p, api.ErrColumn)
	mustCheck(t, nil, p, api.ErrColumn)
	for _, v := range slices.Concat(list(null), intValues(), realValues(), badValues()) {
		mustCheck(t, twoColumns(), begins("t", v), api.ErrValue)
		mustCheck(t, twoColumns(), begins("a", v), api.ErrOp)
	}
}

// TestP18_1Fields: each field that does not count must be zero, and Value the Null that may be.
func TestP18_1Fields(t *testing.T) {
	type field struct {
		set  func(p *api.Pred)
		free []int
	}
	var fields []field
	for _, op := range []int{1, 6, 7, -1, math.MinInt, math.MaxInt} {
		fields = append(fields, field{func(p *api.Pred) { p.Op = op }, []int{api.PredCompare}})
	}
	for _, v := range allValues()[1:] {
		fields = append(fields, field{func(p *api.Pred) { p.Value = v }, []int{api.PredCompare, api.PredBegins}})
	}
	for _, l := range [][]api.Value{{null}, {num(5)}, {word("x")}, nums(3, 7), nums(3, 5, 7), make([]api.Value, 1025)} {
		fields = append(fields, field{func(p *api.Pred) { p.List = l }, []int{api.PredIn, api.PredBetween}})
	}
	for _, kids := range [][]api.Pred{{{}}, {isNull("a"), isNull("t")}, make([]api.Pred, 3)} {
		fields = append(fields, field{func(p *api.Pred) { p.Kids = kids }, nil})
	}
	for _, p := range []api.Pred{compared("a", api.Lt, num(5)), compared("t", api.Eq, word("")), in("a"), in("t", words("a", "b")...), between("a", nums(3, 7)...), isNull("a"), isNull("t"), begins("t", word("x"))} {
		for _, f := range fields {
			q := p
			f.set(&q)
			if !slices.Contains(f.free, p.Kind) {
				mustCheck(t, twoColumns(), q, api.ErrArg)
			}
		}
	}
}

// TestP18_1Empty: lists that are empty and not nil are none, with room behind them too.
func TestP18_1Empty(t *testing.T) {
	for _, p := range []api.Pred{compared("a", api.Lt, num(5)), in("a"), isNull("a"), begins("t", word("x"))} {
		p.List, p.Kids = []api.Value{}, []api.Pred{}
		mustCheck(t, twoColumns(), p, api.OK)
		p.List, p.Kids = nums(1, 2, 3)[:0], []api.Pred{{}, {}}[:0]
		mustCheck(t, twoColumns(), p, api.OK)
	}
	p := between("a", nums(3, 7, 9)[:2]...)
	p.Kids = []api.Pred{{}}[:0]
	mustCheck(t, twoColumns(), p, api.OK)
}

// TestP18_1BetweenLength: just two, whatever their order.
func TestP18_1BetweenLength(t *testing.T) {
	for _, n := range []int{0, 1, 2, 3, 4, 1023, 1024, 1025, 5000} {
		want := api.ErrArg
		if n == 2 {
			want = api.OK
		}
		mustCheck(t, twoColumns(), between("a", slices.Repeat(nums(5), n)...), want)
		mustCheck(t, twoColumns(), between("t", slices.Repeat(words("x"), n)...), want)
	}
	mustCheck(t, twoColumns(), between("a", nums(7, 3)...), api.OK)
	mustCheck(t, twoColumns(), between("t", words("b", "a")...), api.OK)
}

// TestP18_1InLength: at most MaxList, the wrong values beyond them not being looked at first.
func TestP18_1InLength(t *testing.T) {
	for _, kind := range []int{api.Int, api.Text} {
		name, one, _, many := ofType(kind)
		for _, v := range list(one, null, float(5), api.Value{Kind: 9}) {
			mustCheck(t, twoColumns(), in(name, append(slices.Clone(many), v)...), api.ErrLarge)
			mustCheck(t, twoColumns(), in(name, append(list(v), many...)...), api.ErrLarge)
			mustCheck(t, twoColumns(), in("z", append(list(v), many...)...), api.ErrColumn)
		}
		mustCheck(t, twoColumns(), in(name, slices.Repeat(many, 4)...), api.ErrLarge)
	}
}

// TestP18_1Column: a column is found by its whole name alone, and the first of that name counts.
func TestP18_1Column(t *testing.T) {
	for _, name := range []string{"", "A", "T", "b", "aa", "at", "a ", " a", "a\x00", "é", strings.Repeat("a", 1<<16)} {
		for _, p := range coreOf(name) {
			mustCheck(t, twoColumns(), p, api.ErrColumn)
			mustCheck(t, nil, p, api.ErrColumn)
			mustCheck(t, []api.Column{}, p, api.ErrColumn)
		}
		mustCheck(t, []api.Column{{Name: "q", Type: api.Text}, {Name: name, Type: api.Int}}, compared(name, api.Eq, num(1)), api.OK)
	}
	for _, first := range []int{api.Int, api.Text} {
		twice := []api.Column{{Name: "b", Type: 3 - first}, {Name: "a", Type: first}, {Name: "a", Type: 3 - first}, {Name: "a", Type: 77}}
		_, one, _, _ := ofType(first)
		_, other, _, _ := ofType(3 - first)
		for _, op := range ops() {
			mustCheck(t, twice, compared("a", op, one), api.OK)
			mustCheck(t, twice, compared("a", op, other), api.ErrValue)
			mustCheck(t, twice[2:], compared("a", op, other), api.OK)
			mustCheck(t, twice[3:], compared("a", op, other), api.ErrValue)
		}
	}
	twice := []api.Column{{Name: "a", Type: api.Text}, {Name: "a", Type: api.Int}}
	mustCheck(t, twice, begins("a", word("x")), api.OK)
	slices.Reverse(twice)
	mustCheck(t, twice, begins("a", word("x")), api.ErrOp)
}

// TestP18_1AnyColumns: columns are not looked at further: a type that is none has no values, or those of a Real.
func TestP18_1AnyColumns(t *testing.T) {
	for _, kind := range wrongTypes() {
		for _, may := range []bool{false, true} {
			cols := []api.Column{{Name: "9 é", Type: kind, Null: may}, {Name: "9 é", Type: api.Int}}
			mustCheck(t, cols, isNull("9 é"), api.OK)
			mustCheck(t, cols, in("9 é"), api.OK)
			for _, v := range allValues() {
				want := api.ErrValue
				if kind == 3 && v.Kind == 3 && mayBe(v) {
					want = api.OK
				}
				mustCheck(t, cols, compared("9 é", api.Le, v), want)
				mustCheck(t, cols, in("9 é", v), want)
				mustCheck(t, cols, between("9 é", v, v), want)
			}
		}
	}
	many := slices.Repeat(twoColumns(), 500)
	mustCheck(t, append(many, api.Column{Name: "far", Type: api.Text}), begins("far", word("x")), api.OK)
}

// TestP18_1Values: every value of every atom is looked at, wherever it stands.
func TestP18_1Values(t *testing.T) {
	for _, kind := range []int{api.Int, api.Text} {
		name, one, three, many := ofType(kind)
		for _, v := range allValues() {
			want := api.ErrValue
			if v.Kind == kind && mayBe(v) {
				want = api.OK
			}
			for _, op := range ops() {
				mustCheck(t, twoColumns(), compared(name, op, v), want)
			}
			mustCheck(t, twoColumns(), between(name, v, one), want)
			mustCheck(t, twoColumns(), between(name, one, v), want)
			mustCheck(t, twoColumns(), between(name, v, v), want)
			for i := range three {
				l := slices.Clone(three)
				l[i] = v
				mustCheck(t, twoColumns(), in(name, l...), want)
			}
			for _, i := range []int{0, 1, 511, 1022, 1023} {
				l := slices.Clone(many)
				l[i] = v
				mustCheck(t, twoColumns(), in(name, l...), want)
			}
		}
	}
	mustCheck(t, twoColumns(), compared("t", api.Eq, word(longest('a'))), api.OK)
	mustCheck(t, twoColumns(), compared("t", api.Eq, word(longest('a')+"a")), api.ErrValue)
	mustCheck(t, twoColumns(), begins("t", word(longest('a'))), api.OK)
	mustCheck(t, twoColumns(), begins("t", word(longest('a')+"a")), api.ErrValue)
}

// TestP18_1AsPlain: every predicate of these tests, of several columns, as the plain reading has it.
func TestP18_1AsPlain(t *testing.T) {
	all := [][]api.Column{nil, twoColumns(), {{Name: "a", Type: api.Text}}, {{Name: "a", Type: api.Real}}, {{Name: "a"}, {Name: "a", Type: api.Int}}, {{Name: "z", Type: api.Int}}}
	for _, name := range []string{"a", "t"} {
		for _, p := range allPreds(name) {
			for _, cols := range all {
				mustCheck(t, cols, p, plainCheck(cols, p))
			}
		}
	}
}

func TestP18_1ByChance(t *testing.T) {
	r := byChance(1)
	met := map[api.Errno]int{}
	for range 60000 {
		cols := make([]api.Column, r.IntN(4))
		for i := range cols {
			cols[i] = api.Column{Name: oneOf(r, []string{"a", "b", ""}), Type: r.IntN(12) / 4 % 3 * (1 + r.IntN(5)/4), Null: r.IntN(2) == 0}
		}
		p := somePred(r, []string{"a", "b", ""})
		want := plainCheck(cols, p)
		met[want]++
		mustCheck(t, cols, p, want)
	}
	for _, e := range []api.Errno{api.OK, api.ErrArg, api.ErrLarge, api.ErrValue, api.ErrColumn, api.ErrOp} {
		if met[e] < 20 {
			t.Errorf("%d came but %d times", e, met[e])
		}
	}
}

package lang_test

import (
	"math"
	"slices"
	"strings"
	"testing"

	"colonnade/api"
)

// TestP24_2Texts: the one text of each sort of query, its blanks, parentheses and backquotes.
func TestP24_2Texts(t *testing.T) {
	a, b, c := isNull("a"), isNull("b"), isNull("c")
	for _, x := range []struct {
		text string
		p    api.Pred
	}{
		{"a = 1", compared("a", 1, num(1))}, {"a <> -1", compared("a", 2, num(-1))}, {"a < 0", compared("a", 3, num(0))}, {"a <= \"\"", compared("a", 4, word(""))}, {"a > \"x\"", compared("a", 5, word("x"))}, {"a >= \"\\\"\\\\\\x00\"", compared("a", 6, word("\"\\\x00"))},
		{"a in ()", in("a")}, {"a in (1)", in("a", num(1))}, {"a in (3, \"x\", 3)", in("a", num(3), word("x"), num(3))},
		{"a between 2 and 1", between("a", num(2), num(1))}, {"a between \"x\" and 1", between("a", word("x"), num(1))},
		{"a is null", a}, {"a begins \"\"", begins("a", word(""))}, {"a begins \"(\"", begins("a", word("("))}, {"a = \",\"", compared("a", 1, word(","))}, {"a in (\")\", \"(\", \",\")", in("a", word(")"), word("("), word(","))},
		{"`in` in (1)", in("in", num(1))}, {"`not` is null", isNull("not")}, {"sum = 1", compared("sum", 1, num(1))}, {"rows in ()", in("rows")}, {"`between` between 1 and 2", between("between", num(1), num(2))}, {"`begins` begins \"begins\"", begins("begins", word("begins"))}, {"And is null", isNull("And")},
		{"not all", not(all)}, {"not not all", not(not(all))}, {"not a is null", not(a)}, {"all and all", and(all, all)}, {"all or all or all", or(all, all, all)},
		{"not (a is null and b is null)", not(and(a, b))}, {"not (a is null or b is null)", not(or(a, b))}, {"not not (a is null or b is null)", not(not(or(a, b)))}, {"not a is null and not b is null", and(not(a), not(b))}, {"not a is null or not b is null", or(not(a), not(b))},
		{"a is null and b is null or c is null", or(and(a, b), c)}, {"a is null or b is null and c is null", or(a, and(b, c))}, {"a is null and (b is null or c is null)", and(a, or(b, c))}, {"(a is null or b is null) and c is null", and(or(a, b), c)},
		{"(a is null and b is null) and c is null", and(and(a, b), c)}, {"a is null and (b is null and c is null)", and(a, and(b, c))}, {"(a is null or b is null) or c is null", or(or(a, b), c)}, {"a is null or (b is null or c is null)", or(a, or(b, c))},
		{"((a is null or b is null) and c is null) and all", and(and(or(a, b), c), all)}, {"(a is null or b is null) and c is null or all", or(and(or(a, b), c), all)}, {"((a is null or b is null) or c is null) or all", or(or(or(a, b), c), all)}, {"(a is null and (b is null or c is null)) and all", and(and(a, or(b, c)), all)},
		{"not ((a is null or b is null) and c is null)", not(and(or(a, b), c))}, {"not (not (a is null or b is null) and c is null)", not(and(not(or(a, b)), c))}, {"not (a is null and b is null or c is null)", not(or(and(a, b), c))},
		{"a between 1 and 2 and b between 3 and 4", and(between("a", num(1), num(2)), between("b", num(3), num(4)))}, {"not a in (1) and (b in () or all)", and(not(in("a", num(1))), or(in("b"), all))},
	} {
		mustBeBoth(t, "select a where "+x.text, askingWhere(x.p))
		q := api.Query{Items: []api.Item{sum("by"), rows, column("or"), column("sum")}, Where: x.p, Group: []string{"group", "a"}, Order: []api.Key{{Item: 2}, {Item: 63, Down: true}}, Limit: 0}
		mustBeBoth(t, "select sum(`by`), rows(), `or`, sum where "+x.text+" group by `group`, a order by 3, 64 down limit 0", q)
	}
}

// TestP24_2Parts: what is said of nothing is missing, each part by itself.
func TestP24_2Parts(t *testing.T) {
	for i := range 16 {
		q, text := asking(column("a")), "select a"
		if i&1 > 0 {
			q.Where = not(all)
			text += " where not all"
		}
		if i&2 > 0 {
			q.Group = []string{"b"}
			text += " group by b"
		}
		if i&4 > 0 {
			q.Order = []api.Key{{Item: 0}}
			text += " order by 1"
		}
		if i&8 > 0 {
			q.Limit = 0
			text += " limit 0"
		}
		mustBeBoth(t, text, q)
	}
	for kind := 1; kind <= 7; kind++ {
		for _, name := range append(goodNames(), "rows") {
			it := api.Item{Kind: kind, Column: name}
			if kind == api.ItemRows {
				it.Column = ""
			}
			mustBeBoth(t, "select "+tellItem(it)+", a, "+tellItem(it), asking(it, column("a"), it))
		}
	}
	mustPrint(t, askingWhere(all), "select a", api.OK)
	mustPrint(t, api.Query{Items: []api.Item{rows}, Group: []string{}, Order: []api.Key{}, Where: api.Pred{List: []api.Value{}, Kids: []api.Pred{}}, Limit: -1}, "select rows()", api.OK)
	mustPrint(t, api.Query{Items: []api.Item{rows}}, "select rows() limit 0", api.OK)
}

// TestP24_2Values: each value that a text says, at each place.
func TestP24_2Values(t *testing.T) {
	values := goodValues()
	for b := range 256 {
		values = append(values, word(string([]byte{byte(b)})), word(string([]byte{'0', byte(b), 'f'})))
	}
	for _, v := range values {
		s := tellValue(v)
		mustBeBoth(t, "select a where a = "+s, askingWhere(compared("a", 1, v)))
		mustBeBoth(t, "select a where a in ("+s+", 1, "+s+") and all", askingWhere(and(in("a", v, num(1), v), all)))
		mustBeBoth(t, "select a where a between "+s+" and "+s, askingWhere(between("a", v, v)))
		if v.Kind == api.Text {
			mustBeBoth(t, "select a where a begins "+s, askingWhere(begins("a", v)))
		}
	}
}

// TestP24_2Items: which items can be told.
func TestP24_2Items(t *testing.T) {
	mustPrint(t, api.Query{}, "", api.ErrQuery)
	mustPrint(t, asking(), "", api.ErrQuery)
	for _, kind := range []int{math.MinInt, -1, 0, 1, 2, 3, 4, 5, 6, 7, 8, 9, 256 + 1, 1<<32 + 1, math.MaxInt} {
		for _, name := range slices.Concat(badNames(), []string{"a", "select", "rows", strings.Repeat("n", 64)}) {
			it := api.Item{Kind: kind, Column: name}
			e := api.OK
			if kind < 1 || kind > 7 || kind == 2 && name != "" || kind != 2 && slices.Contains(badNames(), name) {
				e = api.ErrQuery
			}
			for _, q := range []api.Query{asking(it), asking(it, rows), asking(rows, it), asking(rows, it, column("a"))} {
				if e == api.OK {
					mustBeBoth(t, tellQuery(q), q)
				} else {
					mustPrint(t, q, "", e)
				}
			}
		}
	}
}

// TestP24_2Rest: which names, keys and limits can be told.
func TestP24_2Rest(t *testing.T) {
	for _, name := range append(badNames(), goodNames()...) {
		e := api.OK
		if slices.Contains(badNames(), name) {
			e = api.ErrQuery
		}
		for _, group := range [][]string{{name}, {name, "a"}, {"a", name}, {"a", name, "a"}} {
			q := asking(rows)
			q.Group = group
			if e == api.OK {
				mustBeBoth(t, tellQuery(q), q)
			} else {
				mustPrint(t, q, "", e)
			}
		}
	}
	for _, at := range []int{math.MinInt, -65, -64, -2, -1, 0, 1, 2, 62, 63, 64, 65, 127, 1 << 32, math.MaxInt} {
		for _, down := range []bool{false, true} {
			for _, order := range [][]api.Key{{{Item: at, Down: down}}, {{Item: at, Down: down}, {Item: 1}}, {{Item: 63, Down: true}, {Item: at, Down: down}}} {
				q := asking(rows)
				q.Order = order
				if 0 <= at && at <= 63 {
					mustBeBoth(t, tellQuery(q), q)
				} else {
					mustPrint(t, q, "", api.ErrQuery)
				}
			}
		}
	}
	for _, limit := range []int{math.MinInt, -1 << 32, -3, -2, -1, 0, 1, 2, 1 << 24, 1 << 32, math.MaxInt} {
		q := asking(rows)
		q.Limit = limit
		if limit >= -1 {
			mustBeBoth(t, tellQuery(q), q)
		} else {
			mustPrint(t, q, "", api.ErrQuery)
		}
	}
}

// goodAtoms are of each sort.
func goodAtoms() []api.Pred {
	return []api.Pred{lessThree(), compared("a", 1, word("")), in("a"), in("a", num(1), word("x")), between("a", num(1), word("x")), isNull("a"), begins("a", word("x")), begins("a", word(""))}
}

// badPreds have something in them that no text says.
func badPreds() []api.Pred {
	var out []api.Pred
	for _, p := range append(goodAtoms(), all, not(all), and(all, all), or(all, all, all)) {
		for _, kind := range []int{math.MinInt, -1, 9, 10, 1 << 32, 1<<32 + p.Kind, math.MaxInt} {
			q := p
			q.Kind = kind
			out = append(out, q)
		}
		for _, name := range badNames() {
			q := p
			q.Column = name
			if name != p.Column {
				out = append(out, q)
			}
		}
		for _, op := range []int{math.MinInt, -1, 0, 1, 6, 7, 1 << 32, 1<<32 + 1, math.MaxInt} {
			q := p
			q.Op = op
			if op != p.Op && (p.Kind != 1 || op < 1 || op > 6) {
				out = append(out, q)
			}
		}
		for _, v := range badValues() {
			q := p
			q.Value = v
			if !sameValue(v, p.Value) {
				out = append(out, q)
			}
			q = p
			q.List = append(slices.Clone(p.List), v)
			out = append(out, q)
			if len(p.List) > 0 {
				q.List = slices.Clone(p.List)
				q.List[0] = v
				out = append(out, q)
			}
		}
		for _, v := range list(num(0), num(5), word(""), word("x")) {
			q := p
			q.Value = v
			if p.Kind != 1 && (p.Kind != 5 || v.Kind != 2) {
				out = append(out, q)
			}
			q = p
			q.List = append(slices.Clone(p.List), v)
			if p.Kind != 2 {
				out = append(out, q)
			}
		}
		q := p
		q.Kids = append(slices.Clone(p.Kids), all)
		if p.Kind != 6 && p.Kind != 7 {
			out = append(out, q)
		}
		if p.Column == "" {
			q := p
			q.Column = "a"
			out = append(out, q)
		}
	}
	for _, kind := range []int{6, 7, 8} {
		for n := range 4 {
			if kind < 8 && n < 2 || kind == 8 && n != 1 {
				out = append(out, api.Pred{Kind: kind, Kids: slices.Repeat([]api.Pred{all}, n)})
			}
		}
	}
	three := between("a", num(1), num(2))
	for n := range 6 {
		q := three
		q.List = slices.Repeat(list(num(1)), n)
		if n != 2 {
			out = append(out, q)
		}
	}
	return out
}

// TestP24_2Preds: a predicate with something in it that no text says can't be told, alone or within others, ahead of them or behind.
func TestP24_2Preds(t *testing.T) {
	for _, p := range badPreds() {
		for _, q := range []api.Pred{p, not(p), and(p, all), or(all, p), and(all, not(or(all, p, lessThree())), all), nots(60, p)} {
			mustPrint(t, askingWhere(q), "", api.ErrQuery)
		}
	}
	for _, p := range append(goodAtoms(), all, not(all), and(all, all), or(all, all, all)) {
		for _, q := range []api.Pred{p, not(p), and(p, all), or(all, p), and(all, not(or(all, p, lessThree())), all), nots(60, p)} {
			mustPrint(t, askingWhere(q), tellQuery(askingWhere(q)), api.OK)
		}
	}
	mustPrint(t, askingWhere(api.Pred{Kind: 1, Column: "a", Op: 1, Value: num(1), List: []api.Value{}, Kids: []api.Pred{}}), "select a where a = 1", api.OK)
}

// TestP24_2Signed: a zero with a sign where no Real is said is seen at each place.
func TestP24_2Signed(t *testing.T) {
	signed := api.Value{Real: minusZero}
	for _, p := range append(goodAtoms(), all, not(all), and(all, all), or(all, all)) {
		q := p
		q.Value.Real = minusZero
		mustPrint(t, askingWhere(q), "", api.ErrQuery)
		mustPrint(t, askingWhere(not(q)), "", api.ErrQuery)
		if p.Kind == 1 || p.Kind == 5 {
			continue
		}
		q = p
		q.Value = signed
		mustPrint(t, askingWhere(q), "", api.ErrQuery)
		if len(p.List) > 0 {
			q = p
			q.List = slices.Clone(p.List)
			q.List[len(q.List)-1].Real = minusZero
			mustPrint(t, askingWhere(q), "", api.ErrQuery)
		}
	}
}

// TestP24_2ByChance: queries that can be told, and such with a part that was changed, are told apart as the plain reading does.
func TestP24_2ByChance(t *testing.T) {
	r := byChance(3)
	told, refused := 0, 0
	for range 8000 {
		q := someQuery(r)
		mustPrint(t, q, tellQuery(q), api.OK)
		q = spoiltQuery(r, q)
		want, e := readPrint(q)
		mustPrint(t, q, want, e)
		if e == api.OK {
			told++
		} else {
			refused++
		}
	}
	if told < 800 || refused < 2000 {
		t.Fatalf("too few of a sort: %d told, %d refused", told, refused)
	}
}

// TestP24_2Wild: predicates of whatever Kinds and fields, within one another.
func TestP24_2Wild(t *testing.T) {
	r := byChance(4)
	var wild func(deep int) api.Pred
	wild = func(deep int) api.Pred {
		p := api.Pred{Kind: r.IntN(11) - 1, Column: oneOf(r, []string{"", "a", "or", "9", "a b"}), Op: r.IntN(9) - 1}
		if r.IntN(2) == 0 {
			p.Value = oneOf(r, append(badValues()[:3], goodValues()[:12]...))
		}
		p.List = someValues(r, r.IntN(3))
		for range r.IntN(4) {
			if deep > 1 {
				p.Kids = append(p.Kids, wild(deep-1))
			}
		}
		return p
	}
	for range 3000 {
		q := askingWhere(wild(1 + r.IntN(4)))
		want, e := readPrint(q)
		mustPrint(t, q, want, e)
	}
}

package query_test

import (
	"math"
	"math/rand/v2"
	"slices"
	"strings"

	"colonnade/api"
)

// wrongColumns are those that may not be.
func wrongColumns() [][]api.Column {
	many := make([]api.Column, 257)
	for i := range many {
		many[i] = api.Column{Name: "c" + strings.Repeat("x", i%60) + string(rune('a'+i/60)), Type: api.Int}
	}
	return [][]api.Column{
		nil, {}, many,
		{{Name: "a", Type: api.Int}, {Name: "a", Type: api.Text}}, {{Name: "", Type: api.Int}}, {{Name: "9", Type: api.Int}}, {{Name: "a b", Type: api.Int}}, {{Name: "é", Type: api.Int}},
		{{Name: "a", Type: api.Real}}, {{Name: "a"}}, {{Name: "a", Type: 4}}, {{Name: "a", Type: -1}}, {{Name: strings.Repeat("a", 65), Type: api.Int}},
	}
}

// manyColumns are as many as may be, by turns of either type.
func manyColumns() []api.Column {
	cols := make([]api.Column, 256)
	for i := range cols {
		cols[i] = api.Column{Name: "c" + string(rune('a'+i/16)) + string(rune('a'+i%16)), Type: 1 + i%2, Null: i%3 == 0}
	}
	return cols
}

// goodAtoms may be for fourColumns; there are some of each Kind, with each Op.
func goodAtoms() []api.Pred {
	out := []api.Pred{
		isNull("a"), isNull("t"), isNull("s"), in("a"), in("a", num(1)), in("n", num(3), num(1), num(3)), in("s", word("b"), word("")), between("a", num(1), num(3)), between("t", word("b"), word("a")), begins("t", word("b")), begins("s", word("")),
		in("a", slices.Repeat(list(num(2)), 1024)...), compared("t", api.Eq, word(strings.Repeat("x", 65535))), compared("n", api.Gt, num(math.MinInt64)),
	}
	for op := api.Eq; op <= api.Ge; op++ {
		out = append(out, compared("a", op, num(2)), compared("n", op, num(1)), compared("t", op, word("b")), compared("s", op, word("")))
	}
	return out
}

// badAtoms are of an atom's Kind, and may not be for fourColumns.
func badAtoms() []api.Pred {
	out := []api.Pred{
		compared("a", api.Lt, word("x")), compared("t", api.Lt, num(1)), compared("z", api.Lt, num(1)), compared("", api.Lt, num(1)), compared("A", api.Lt, num(1)), compared("a", api.Lt, null), compared("a", api.Lt, float(1)), compared("a", 0, num(1)), compared("a", 7, num(1)), compared("a", -1, num(1)),
		compared("a", 1, api.Value{Kind: 1, Text: "x"}), compared("a", 1, api.Value{Kind: 1, Real: minusZero}), compared("t", 1, word(strings.Repeat("x", 65536))), compared("t", 1, api.Value{Kind: 2, Int: 1}),
		in("z"), in("a", null), in("a", num(1), word("x")), in("a", slices.Repeat(list(num(2)), 1025)...), between("a", num(1)), between("a"), between("a", num(1), num(2), num(3)), between("a", num(1), word("x")), between("a", null, num(1)), between("z", num(1), num(2)),
		isNull("z"), isNull(""), begins("a", word("x")), begins("a", num(1)), begins("t", num(1)), begins("t", null), begins("z", word("x")),
	}
	for _, p := range []api.Pred{isNull("a"), in("a"), in("a", num(1)), between("a", num(1), num(2)), begins("t", word("b")), lessThree()} {
		for _, k := range [][]api.Pred{{all}, {isNull("a")}, {all, all}} {
			q := p
			q.Kids = k
			out = append(out, q)
		}
		if p.Kind != api.PredCompare {
			q := p
			q.Op = 1
			out = append(out, q)
		}
		if p.Kind == api.PredIn || p.Kind == api.PredBetween || p.Kind == api.PredNull {
			for _, v := range notZero() {
				q := p
				q.Value = v
				out = append(out, q)
			}
		} else {
			q := p
			q.List = list(num(1))
			out = append(out, q)
		}
	}
	return out
}

// notZero are values of which a field that does not count is none; some hold themselves for zero by ==.
func notZero() []api.Value {
	return list(num(0), word(""), float(0), api.Value{Real: minusZero}, api.Value{Int: 1}, api.Value{Text: "x"}, api.Value{Real: 1}, api.Value{Real: math.NaN()}, api.Value{Kind: 9}, api.Value{Kind: -1})
}

// strayed are the same predicate with one field more that does not count for PredAll, PredAnd, PredOr or PredNot.
func strayed(p api.Pred) []api.Pred {
	var out []api.Pred
	with := func(change func(q *api.Pred)) {
		q := p
		change(&q)
		out = append(out, q)
	}
	for _, name := range []string{"a", "z", " ", "\x00"} {
		with(func(q *api.Pred) { q.Column = name })
	}
	for _, op := range []int{1, 6, 7, -1, math.MinInt} {
		with(func(q *api.Pred) { q.Op = op })
	}
	for _, v := range notZero() {
		with(func(q *api.Pred) { q.Value = v })
	}
	with(func(q *api.Pred) { q.List = list(null) })
	with(func(q *api.Pred) { q.List = list(num(1), num(2)) })
	return out
}

// otherKinds are of no predicate.
func otherKinds() []int {
	return []int{-1, -8, 9, 10, 14, 256, 262, 1<<32 + 6, math.MinInt, math.MaxInt}
}

// badPreds may not be for fourColumns, each for a fault at its head or in a kid.
func badPreds() []api.Pred {
	good := lessThree()
	out := []api.Pred{and(), and(good), or(), or(good), not(), not(good, good), not(good, good, good), {Kind: api.PredAll, Kids: []api.Pred{good}}, {Kind: api.PredAll, Kids: []api.Pred{all, all}}}
	for _, p := range []api.Pred{all, and(good, all), or(good, all), not(good)} {
		out = append(out, strayed(p)...)
	}
	for _, kind := range otherKinds() {
		out = append(out, api.Pred{Kind: kind}, api.Pred{Kind: kind, Kids: []api.Pred{good}}, api.Pred{Kind: kind, Kids: []api.Pred{good, good}}, api.Pred{Kind: kind, Column: "a"}, api.Pred{Kind: kind, Column: "a", Op: 1, Value: num(1)})
	}
	for _, p := range slices.Concat(slices.Clone(out), badAtoms()) {
		out = append(out, and(p, good), and(good, p), or(good, good, p), not(p), not(and(good, or(p, good))))
	}
	return append(out, badAtoms()...)
}

// someRow is of the columns, by chance, of few values so that atoms are met.
func someRow(r *rand.Rand, cols []api.Column) []api.Value {
	row := make([]api.Value, len(cols))
	for i, c := range cols {
		switch {
		case c.Null && r.IntN(3) == 0:
		case c.Type == api.Int:
			row[i] = num(int64(r.IntN(5)))
		default:
			row[i] = word(oneOf(r, []string{"", "a", "b", "ba", "c"}))
		}
	}
	return row
}

// someAtom may be for the columns.
func someAtom(r *rand.Rand, cols []api.Column) api.Pred {
	c := oneOf(r, cols)
	row := func() api.Value { c := c; c.Null = false; return someRow(r, []api.Column{c})[0] }
	switch r.IntN(6) {
	case 0:
		return isNull(c.Name)
	case 1:
		return between(c.Name, row(), row())
	case 2:
		p := in(c.Name)
		for range r.IntN(4) {
			p.List = append(p.List, row())
		}
		return p
	case 3:
		if c.Type == api.Text {
			return begins(c.Name, row())
		}
	}
	return compared(c.Name, 1+r.IntN(6), row())
}

// somePred may be for the columns, at most so deep.
func somePred(r *rand.Rand, cols []api.Column, deep int) api.Pred {
	if deep <= 1 || r.IntN(4) == 0 {
		if r.IntN(8) == 0 {
			return all
		}
		return someAtom(r, cols)
	}
	if r.IntN(3) == 0 {
		return not(somePred(r, cols, deep-1))
	}
	p := api.Pred{Kind: api.PredAnd + r.IntN(2)}
	for range 2 + r.IntN(2) {
		p.Kids = append(p.Kids, somePred(r, cols, deep-1))
	}
	return p
}

// wildPred is of whatever Kind, with whatever fields and kids.
func wildPred(r *rand.Rand, deep int) api.Pred {
	p := api.Pred{Kind: r.IntN(9)}
	if r.IntN(10) == 0 {
		p.Kind = oneOf(r, otherKinds())
	}
	if p.Kind <= 5 || r.IntN(10) == 0 {
		p.Column = oneOf(r, []string{"a", "t", "n", "s", "z", ""})
	}
	if p.Kind == 1 || r.IntN(10) == 0 {
		p.Op = r.IntN(8)
	}
	if p.Kind == 1 || p.Kind == 5 || r.IntN(10) == 0 {
		p.Value = oneOf(r, append(notZero(), num(1), num(2), word("b"), null))
	}
	if p.Kind == 2 || p.Kind == 3 || r.IntN(10) == 0 {
		for range r.IntN(4) {
			p.List = append(p.List, oneOf(r, append(notZero(), num(1), num(2))))
		}
	}
	if deep > 1 && (p.Kind >= 6 || r.IntN(10) == 0) {
		for range oneOf(r, []int{0, 1, 1, 2, 2, 3}) {
			p.Kids = append(p.Kids, wildPred(r, deep-1))
		}
	}
	return p
}

// spoilt is a predicate that may be, but for one place within it that has become a wild one.
func spoilt(r *rand.Rand, p api.Pred) api.Pred {
	if len(p.Kids) == 0 || r.IntN(4) == 0 {
		return oneOf(r, []api.Pred{oneOf(r, badAtoms()), wildPred(r, 2)})
	}
	p.Kids = slices.Clone(p.Kids)
	at := r.IntN(len(p.Kids))
	p.Kids[at] = spoilt(r, p.Kids[at])
	return p
}

// someItem may be for the columns.
func someItem(r *rand.Rand, cols []api.Column, kind int) api.Item {
	if kind == api.ItemRows {
		return rows
	}
	c := oneOf(r, cols)
	for (kind == api.ItemSum || kind == api.ItemMean) && c.Type != api.Int {
		c = oneOf(r, cols)
	}
	return api.Item{Kind: kind, Column: c.Name}
}

// someQuery may be asked of the columns.
func someQuery(r *rand.Rand, cols []api.Column) api.Query {
	q := api.Query{Where: somePred(r, cols, 1+r.IntN(5)), Limit: r.IntN(5) - 1}
	if r.IntN(2) == 0 {
		for _, i := range r.Perm(len(cols))[:1+r.IntN(min(len(cols), 4))] {
			q.Group = append(q.Group, cols[i].Name)
		}
	}
	plainRows := r.IntN(2) == 0
	for range 1 + r.IntN(4) {
		switch {
		case len(q.Group) > 0 && plainRows:
			q.Items = append(q.Items, column(oneOf(r, q.Group)))
		case plainRows:
			q.Items = append(q.Items, someItem(r, cols, api.ItemColumn))
		default:
			q.Items = append(q.Items, someItem(r, cols, api.ItemRows+r.IntN(6)))
		}
		if len(q.Group) > 0 {
			plainRows = r.IntN(2) == 0
		}
	}
	for range r.IntN(4) {
		q.Order = append(q.Order, api.Key{Item: r.IntN(len(q.Items)), Down: r.IntN(2) == 0})
	}
	return q
}

// spoiltQuery is one that may be asked, but for one part of it that was changed somehow.
func spoiltQuery(r *rand.Rand, q api.Query) api.Query {
	q.Items, q.Group, q.Order = slices.Clone(q.Items), slices.Clone(q.Group), slices.Clone(q.Order)
	names := []string{"a", "t", "n", "s", "z", "", "A"}
	switch r.IntN(7) {
	case 0:
		q.Items[r.IntN(len(q.Items))].Kind = oneOf(r, []int{-1, 0, 1, 2, 3, 4, 5, 6, 7, 8, 9})
	case 1:
		q.Items[r.IntN(len(q.Items))].Column = oneOf(r, names)
	case 2:
		q.Items = append(q.Items, api.Item{Kind: r.IntN(9), Column: oneOf(r, names)})
	case 3:
		q.Group = append(q.Group, oneOf(r, names))
	case 4:
		q.Order = append(q.Order, api.Key{Item: r.IntN(8) - 2})
	case 5:
		q.Limit = oneOf(r, []int{-3, -2, -1, 0, 1, math.MinInt, math.MaxInt})
	case 6:
		q.Where = spoilt(r, q.Where)
	}
	return q
}

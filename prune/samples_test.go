package prune_test

import (
	"math"
	"math/rand/v2"
	"slices"
	"strings"
	"testing"

	"colonnade/api"
	"colonnade/check"
	"colonnade/chunk"
	"colonnade/cursor"
	"colonnade/image"
	"colonnade/schema"
	"colonnade/zone"
)

// minusZero is the zero with a sign, which no constant is.
var minusZero = math.Copysign(0, -1)

// fourColumns are of each type, with nulls and without them.
func fourColumns() []api.Column {
	return []api.Column{{Name: "a", Type: api.Int, Null: true}, {Name: "t", Type: api.Text}, {Name: "n", Type: api.Int}, {Name: "s", Type: api.Text, Null: true}}
}

// manyColumns are as many as may be, of all four sorts in turn.
func manyColumns() []api.Column {
	cols := make([]api.Column, 256)
	for i := range cols {
		cols[i] = api.Column{Name: "c" + string(rune('a'+i/16)) + string(rune('a'+i%16)), Type: 1 + i%2, Null: i%4 > 1}
	}
	return cols
}

// longest is a text of as many bytes as it may have, all of them c.
func longest(c byte) string { return strings.Repeat(string([]byte{c}), 65535) }

// fewValues are values of a type, rising, near to one another.
func fewValues(kind int) []api.Value {
	if kind == api.Int {
		return list(num(-1), num(0), num(1), num(2), num(3), num(4), num(5))
	}
	return list(word(""), word("a"), word("a\x00"), word("aa"), word("ab"), word("ab\xff"), word("b"), word("ba"), word("c"))
}

// edgeValues are values of a type, rising, at the ends of what may be.
func edgeValues(kind int) []api.Value {
	if kind == api.Int {
		return list(num(math.MinInt64), num(math.MinInt64+1), num(-256), num(0), num(1<<32), num(1<<53+1), num(math.MaxInt64-1), num(math.MaxInt64))
	}
	return list(word(""), word("\x00"), word("\x00\x00"), word("a"), word(longest('a')), word("é"), word("\xff"), word("\xff\xff"), word(longest(0xff)))
}

// someValue is one of few, so that atoms are met.
func someValue(r *rand.Rand, kind int) api.Value { return oneOf(r, fewValues(kind)) }

// someRow is of the columns, by chance; of lacks 10 each value is Null that may be.
func someRow(r *rand.Rand, cols []api.Column, lacks int) []api.Value {
	row := make([]api.Value, len(cols))
	for i, c := range cols {
		if !c.Null || r.IntN(10) >= lacks {
			row[i] = someValue(r, c.Type)
		}
	}
	return row
}

// someTable has n rows by chance; a row is often the one ahead of it.
func someTable(r *rand.Rand, cols []api.Column, n int) api.Table {
	tab := api.Table{Columns: cols}
	stays, lacks := r.IntN(11), r.IntN(11)
	for i := range n {
		row := someRow(r, cols, lacks)
		if i > 0 && r.IntN(10) < stays {
			row = slices.Clone(tab.Rows[i-1])
		}
		tab.Rows = append(tab.Rows, row)
	}
	return tab
}

// someCut is n rows cut by chance, row groups without rows among them.
func someCut(r *rand.Rand, n int) []int {
	var l []int
	for n > 0 || r.IntN(3) == 0 {
		k := r.IntN(n + 1)
		l, n = append(l, k), n-k
	}
	return l
}

// cut is a table in those row groups, every chunk Plain, with the records that record says of the column's values.
func cut(t *testing.T, tab api.Table, groups []int, record func(c api.Column, l []api.Value) api.Zone) table {
	t.Helper()
	x := table{t: tab, l: api.Layout{Groups: groups}}
	directory, chunks := cursor.PutUvarint(nil, uint64(len(groups))), []byte(nil)
	for g, n := range groups {
		directory = cursor.PutUvarint(directory, uint64(n))
		var zones []api.Zone
		for i, c := range tab.Columns {
			var values []api.Value
			for _, row := range x.rows(g) {
				values = append(values, row[i])
			}
			z := record(c, values)
			b, e := chunk.Encode(c, values, api.Codec{Kind: api.Plain})
			told, ze := zone.Put(c, z)
			if e != api.OK || ze != api.OK {
				t.Fatalf("Encode(%s): %d; Put(%s): %d", brief(values), e, brief(z), ze)
			}
			directory = append(cursor.Put(cursor.PutUvarint(directory, uint64(len(b))), check.Sum(b)), told...)
			zones, chunks = append(zones, z), append(chunks, b...)
		}
		x.zones = append(x.zones, zones)
	}
	header, _ := schema.Put(tab.Columns)
	im, e := image.Open(sealed(header, directory, chunks))
	if e != api.OK {
		t.Fatalf("Open of %s with the records %s: %d", brief(tab), brief(x.zones), e)
	}
	x.im = im
	return x
}

// sealed is the image of a header, a directory and chunks.
func sealed(header, directory, chunks []byte) []byte {
	summed := func(b []byte) []byte { return cursor.Put(slices.Clone(b), check.Sum(b)) }
	prelude := cursor.Put(cursor.Put([]byte("COL1"), uint32(len(header))), uint32(len(directory)))
	return slices.Concat(summed(prelude), summed(header), summed(directory), chunks)
}

// tight is the records that layer 14 says, with filters of some size by chance, or of none.
func tight(r *rand.Rand) func(c api.Column, l []api.Value) api.Zone {
	return func(c api.Column, l []api.Value) api.Zone {
		z, _ := zone.Of(c, l, oneOf(r, []int{0, 8, 8, 16, 64, 1024}))
		return z
	}
}

// loose is other records that are sound of the values: of wider bounds, and with more bits in the filters.
func loose(r *rand.Rand) func(c api.Column, l []api.Value) api.Zone {
	return func(c api.Column, l []api.Value) api.Zone {
		z := tight(r)(c, l)
		if z.Min.Kind != api.Null {
			for _, v := range append(fewValues(c.Type), edgeValues(c.Type)...) {
				if order(v, z.Min) < 0 && r.IntN(4) == 0 {
					z.Min = v
				}
				if order(v, z.Max) > 0 && r.IntN(4) == 0 {
					z.Max = v
				}
			}
		}
		for i := range z.Bloom {
			z.Bloom[i] |= byte(r.IntN(256) & r.IntN(256))
		}
		return z
	}
}

// plainly has those row groups, and the records that layer 14 says, without filters.
func plainly(t *testing.T, tab api.Table, groups ...int) table {
	t.Helper()
	return cut(t, tab, groups, func(c api.Column, l []api.Value) api.Zone {
		z, _ := zone.Of(c, l, 0)
		return z
	})
}

// someTables have fourColumns, are cut by chance, and have records that are tight, or loose.
func someTables(t *testing.T, seed uint64, each int) []table {
	t.Helper()
	r := byChance(seed)
	var out []table
	for _, n := range []int{0, 1, 2, 3, 5, 9, 20} {
		for range each {
			tab := someTable(r, fourColumns(), n)
			out = append(out, cut(t, tab, []int{n}, tight(r)), cut(t, tab, someCut(r, n), tight(r)), cut(t, tab, someCut(r, n), loose(r)))
		}
	}
	return out
}

// someAtom may be for the columns.
func someAtom(r *rand.Rand, cols []api.Column) api.Pred {
	c := oneOf(r, cols)
	switch r.IntN(6) {
	case 0:
		return isNull(c.Name)
	case 1:
		return between(c.Name, someValue(r, c.Type), someValue(r, c.Type))
	case 2:
		p := in(c.Name)
		for range r.IntN(4) {
			p.List = append(p.List, someValue(r, c.Type))
		}
		return p
	case 3:
		if c.Type == api.Text {
			return begins(c.Name, someValue(r, c.Type))
		}
	}
	return compared(c.Name, 1+r.IntN(6), someValue(r, c.Type))
}

// somePred may be for the columns, at most so deep.
func somePred(r *rand.Rand, cols []api.Column, deep int) api.Pred {
	if deep <= 1 || r.IntN(5) == 0 {
		if r.IntN(10) == 0 {
			return all
		}
		return someAtom(r, cols)
	}
	if r.IntN(3) == 0 {
		return not(somePred(r, cols, deep-1))
	}
	p := api.Pred{Kind: api.PredAnd + r.IntN(2)}
	for range 2 + r.IntN(3) {
		p.Kids = append(p.Kids, somePred(r, cols, deep-1))
	}
	return p
}

// atomsOf are atoms of a column of the name and type, with all the values, of every Kind and Op; l are the values that two or more are taken of.
func atomsOf(c api.Column, l []api.Value) []api.Pred {
	out := []api.Pred{isNull(c.Name), in(c.Name)}
	for i, v := range l {
		for op := api.Eq; op <= api.Ge; op++ {
			out = append(out, compared(c.Name, op, v))
		}
		out = append(out, in(c.Name, v), in(c.Name, v, v))
		if c.Type == api.Text {
			out = append(out, begins(c.Name, v))
		}
		for k, w := range l {
			out = append(out, between(c.Name, v, w), in(c.Name, v, w))
			if i < k {
				out = append(out, in(c.Name, w, l[0], v))
			}
		}
	}
	return out
}

// notZero are values of which a field that does not count is none; some hold themselves for zero by ==.
func notZero() []api.Value {
	return list(num(0), word(""), float(0), api.Value{Real: minusZero}, api.Value{Int: 1}, api.Value{Text: "x"}, api.Value{Real: math.NaN()}, api.Value{Kind: 9}, api.Value{Kind: -1})
}

// badAtoms are of an atom's Kind, and may not be for fourColumns.
func badAtoms() []api.Pred {
	out := []api.Pred{
		compared("a", api.Lt, word("x")), compared("t", api.Lt, num(1)), compared("z", api.Lt, num(1)), compared("", api.Lt, num(1)), compared("A", api.Lt, num(1)), compared("a", api.Lt, null), compared("a", api.Lt, float(1)), compared("a", 0, num(1)), compared("a", 7, num(1)), compared("a", -1, num(1)),
		compared("a", 1, api.Value{Kind: 1, Text: "x"}), compared("a", 1, api.Value{Kind: 1, Real: minusZero}), compared("t", 1, word(strings.Repeat("x", 65536))), compared("t", 1, api.Value{Kind: 2, Int: 1}),
		in("z"), in("a", null), in("a", num(1), word("x")), in("a", slices.Repeat(list(num(2)), 1025)...), between("a", num(1)), between("a"), between("a", num(1), num(2), num(3)), between("a", num(1), word("x")), between("a", null, num(1)),
		isNull("z"), isNull(""), begins("a", word("x")), begins("a", num(1)), begins("t", num(1)), begins("t", null), begins("z", word("x")),
	}
	for _, p := range []api.Pred{isNull("a"), in("a", num(1)), between("a", num(1), num(2)), begins("t", word("b")), compared("a", api.Eq, num(1))} {
		with := func(change func(q *api.Pred)) {
			q := p
			change(&q)
			out = append(out, q)
		}
		with(func(q *api.Pred) { q.Kids = []api.Pred{all} })
		with(func(q *api.Pred) { q.Op = 7 })
		with(func(q *api.Pred) { q.List = append(slices.Clone(q.List), null) })
		for _, v := range notZero()[3:] {
			with(func(q *api.Pred) { q.Value = v })
		}
	}
	return out
}

// badPreds may not be for fourColumns, each for a fault at its head or in a kid.
func badPreds() []api.Pred {
	good := isNull("a")
	out := []api.Pred{and(), and(good), or(), or(good), not(), not(good, good), {Kind: api.PredAll, Kids: []api.Pred{good}}, {Kind: api.PredAll, Kids: []api.Pred{all, all}}}
	for _, p := range []api.Pred{all, and(good, all), or(good, all), not(good)} {
		for _, v := range notZero() {
			p.Value = v
			out = append(out, p)
		}
		p.Value, p.Column = null, "a"
		out = append(out, p)
		p.Column, p.Op = "", 1
		out = append(out, p)
		p.Op, p.List = 0, list(null)
		out = append(out, p)
	}
	for _, kind := range otherKinds() {
		out = append(out, api.Pred{Kind: kind}, api.Pred{Kind: kind, Kids: []api.Pred{good}}, api.Pred{Kind: kind, Kids: []api.Pred{good, good}}, api.Pred{Kind: kind, Column: "a", Op: 1, Value: num(1)})
	}
	for _, p := range slices.Concat(slices.Clone(out), badAtoms()) {
		out = append(out, and(p, good), or(good, good, p), or(all, p), and(not(all), p), not(p), not(and(good, or(p, good))))
	}
	return append(out, badAtoms()...)
}

// otherKinds are of no predicate.
func otherKinds() []int {
	return []int{-1, -8, 9, 10, 256, 262, 1<<32 + 6, math.MinInt, math.MaxInt}
}

// wildPred is of whatever Kind, with whatever fields and kids.
func wildPred(r *rand.Rand, deep int) api.Pred {
	p := api.Pred{Kind: r.IntN(9)}
	if r.IntN(10) == 0 {
		p.Kind = oneOf(r, otherKinds())
	}
	if p.Kind >= 1 && p.Kind <= 5 || r.IntN(30) == 0 {
		p.Column = oneOf(r, []string{"a", "t", "n", "s", "a", "t", "n", "s", "z", ""})
	}
	if p.Kind == 1 || r.IntN(30) == 0 {
		p.Op = r.IntN(8)
	}
	if p.Kind == 1 || p.Kind == 5 || r.IntN(30) == 0 {
		p.Value = oneOf(r, append(notZero(), num(1), num(2), word("b"), word("a"), null))
	}
	if p.Kind == 2 || p.Kind == 3 || r.IntN(30) == 0 {
		for range r.IntN(4) {
			p.List = append(p.List, oneOf(r, append(notZero()[:2], num(1), num(2))))
		}
	}
	if deep > 1 && (p.Kind >= 6 || r.IntN(30) == 0) {
		for range oneOf(r, []int{0, 1, 1, 2, 2, 3}) {
			p.Kids = append(p.Kids, wildPred(r, deep-1))
		}
	}
	return p
}

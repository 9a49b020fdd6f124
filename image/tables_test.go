package image_test

import (
	"fmt"
	"math"
	"math/rand/v2"
	"slices"
	"strings"

	"colonnade/api"
)

// pair is a table and a layout.
type pair struct {
	t api.Table
	l api.Layout
}

// exampleTable is the chapter's.
func exampleTable() api.Table {
	return api.Table{Columns: []api.Column{{Name: "n", Type: api.Int}}, Rows: [][]api.Value{row(num(5)), row(num(6))}}
}

// fourColumns are one of each sort.
func fourColumns() []api.Column {
	return []api.Column{{Name: "i", Type: api.Int}, {Name: "j", Type: api.Int, Null: true}, {Name: "s", Type: api.Text}, {Name: "t", Type: api.Text, Null: true}}
}

// manyColumns are so many, of all four sorts in turn, with names of 64 bytes.
func manyColumns(n int) []api.Column {
	var l []api.Column
	for i := range n {
		l = append(l, api.Column{Name: strings.Repeat("c", 61) + fmt.Sprintf("%03d", i), Type: 1 + i%2, Null: i%4 > 1})
	}
	return l
}

// longest is a text of as many bytes as it may have.
func longest(c byte) string { return strings.Repeat(string([]byte{c}), 65535) }

// edgeValues are values of a column at the ends of what may be.
func edgeValues(kind int) []api.Value {
	if kind == api.Int {
		return row(num(math.MinInt64), num(math.MinInt64+1), num(-1), num(0), num(1), num(63), num(64), num(127), num(128), num(1<<62), num(math.MaxInt64))
	}
	return row(word(""), word("\x00"), word("a"), word("a\x00"), word("ab"), word("\u00e9"), word("\xff\xfe"), word(strings.Repeat("m", 127)), word(strings.Repeat("m", 128)), word(longest(0)), word(longest(255)))
}

// someValue is a value of a column by chance, near to others or far.
func someValue(r *rand.Rand, col api.Column) api.Value {
	switch {
	case col.Null && r.IntN(4) == 0:
		return null
	case r.IntN(200) == 0:
		l := edgeValues(col.Type)
		return l[r.IntN(len(l))]
	case col.Type == api.Int:
		return num(int64(r.Uint64()) >> (30 + r.IntN(34)))
	}
	return word("pqrstuvw"[:r.IntN(9)] + string(rune(r.IntN(300))))
}

// someTable has such columns and n rows by chance; a value is often that of the row ahead.
func someTable(r *rand.Rand, cols []api.Column, n int) api.Table {
	t := api.Table{Columns: slices.Clone(cols)}
	stays := r.IntN(10)
	for i := range n {
		l := make([]api.Value, len(cols))
		for c, col := range cols {
			l[c] = someValue(r, col)
			if i > 0 && r.IntN(10) < stays {
				l[c] = t.Rows[i-1][c]
			}
		}
		t.Rows = append(t.Rows, l)
	}
	return t
}

// someCut is n rows cut by chance, row groups without rows among them.
func someCut(r *rand.Rand, n int) []int {
	var l []int
	for n > 0 || r.IntN(3) == 0 {
		k := r.IntN(n + 1)
		if r.IntN(4) == 0 {
			k = n
		}
		l, n = append(l, k), n-k
	}
	return l
}

// plainLayout has those row groups, Plain for all codecs, and no filter.
func plainLayout(t api.Table, groups ...int) api.Layout {
	l := api.Layout{Groups: groups}
	for range groups {
		l.Codecs = append(l.Codecs, slices.Repeat([]api.Codec{{Kind: api.Plain}}, len(t.Columns)))
		l.Blooms = append(l.Blooms, make([]int, len(t.Columns)))
	}
	return l
}

// fittingLayout has those row groups, codecs by chance that hold their values, and filters of short sizes.
func fittingLayout(r *rand.Rand, t api.Table, groups []int) api.Layout {
	l := plainLayout(t, groups...)
	at := 0
	for g, n := range groups {
		for c, col := range t.Columns {
			l.Codecs[g][c] = fittingCodec(r, col, columnOf(t, c, at, at+n))
			l.Blooms[g][c] = []int{0, 0, 8, 16, 64, 128}[r.IntN(6)]
		}
		at += n
	}
	return l
}

func fittingCodec(r *rand.Rand, col api.Column, l []api.Value) api.Codec {
	for {
		c := codec(1+r.IntN(5), 0)
		if c.Kind > 3 {
			c.Width = []int{0, 1, 2, 3, 4, 5, 7, 8, 9, 16, 31, 32, 33, 62, 63, 64}[r.IntN(16)]
		}
		if !isCodec(col, c) {
			continue
		}
		if _, fit := formOf(col, l, c); fit {
			return c
		}
	}
}

// edgePairs are tables that may be and layouts of them: without rows, of one row, cut at every place, with row groups without rows, with every value at the ends of what may be.
func edgePairs() []pair {
	two, none := exampleTable(), api.Table{Columns: exampleTable().Columns}
	out := []pair{{two, plainLayout(two, 2)}, {two, plainLayout(two, 1, 1)}, {two, plainLayout(two, 0, 1, 0, 0, 1, 0)}, {two, plainLayout(two, 0, 2)}, {two, plainLayout(two, 2, 0)}}
	out = append(out, pair{none, api.Layout{}}, pair{none, plainLayout(none, 0)}, pair{none, plainLayout(none, 0, 0, 0)})
	r := byChance(1)
	for _, cols := range [][]api.Column{fourColumns(), manyColumns(256), manyColumns(127), {{Name: "t", Type: api.Text}}, {{Name: "T", Type: api.Int, Null: true}}} {
		for n := range 4 {
			t := someTable(r, cols, n)
			out = append(out, pair{t, plainLayout(t, n)}, pair{t, fittingLayout(r, t, list(n))}, pair{t, fittingLayout(r, t, someCut(r, n))})
		}
	}
	five := someTable(r, fourColumns(), 5)
	for i := range 6 {
		out = append(out, pair{five, fittingLayout(r, five, list(i, 5-i))})
	}
	ends := api.Table{Columns: fourColumns()}
	ints, texts := edgeValues(api.Int), edgeValues(api.Text)
	for i := range ints {
		ends.Rows = append(ends.Rows, row(ints[i], ints[len(ints)-1-i], texts[i], texts[(i+3)%len(texts)]), row(ints[i], null, texts[i], null))
	}
	return append(out, pair{ends, plainLayout(ends, len(ends.Rows))}, pair{ends, fittingLayout(r, ends, someCut(r, len(ends.Rows)))})
}

// manyPairs are edgePairs and such by chance; some row groups have 128 rows or more, and some tables as many row groups.
func manyPairs(seed uint64) []pair {
	r, out := byChance(seed), edgePairs()
	for n := range 40 {
		t := someTable(r, someColumns(r), n)
		out = append(out, pair{t, fittingLayout(r, t, someCut(r, n))}, pair{t, fittingLayout(r, t, someCut(r, n))})
	}
	t := someTable(r, fourColumns(), 400)
	return append(out, pair{t, fittingLayout(r, t, list(127, 128, 129, 16))}, pair{t, fittingLayout(r, t, slices.Repeat(list(3, 0, 2), 80))})
}

// someColumns are one to six columns by chance, each name ending in a letter of its own.
func someColumns(r *rand.Rand) []api.Column {
	var l []api.Column
	for i := range 1 + r.IntN(6) {
		l = append(l, api.Column{Name: "abc_9Z"[:1+r.IntN(6)] + string(rune('a'+i)), Type: 1 + r.IntN(2), Null: r.IntN(2) == 0})
	}
	return l
}

// oneColumn is a table of one column of Ints and n rows.
func oneColumn(n int, of func(i int) int64) api.Table {
	t := api.Table{Columns: []api.Column{{Name: "n", Type: api.Int}}, Rows: make([][]api.Value, n)}
	for i := range t.Rows {
		t.Rows[i] = row(num(of(i)))
	}
	return t
}

// copyOf is a pair of which no list is shared with another.
func copyOf(p pair) pair {
	q := pair{t: api.Table{Columns: slices.Clone(p.t.Columns)}, l: copyOfLayout(p.l)}
	for _, l := range p.t.Rows {
		q.t.Rows = append(q.t.Rows, slices.Clone(l))
	}
	return q
}

func copyOfLayout(l api.Layout) api.Layout {
	out := api.Layout{Groups: slices.Clone(l.Groups)}
	for _, c := range l.Codecs {
		out.Codecs = append(out.Codecs, slices.Clone(c))
	}
	for _, b := range l.Blooms {
		out.Blooms = append(out.Blooms, slices.Clone(b))
	}
	return out
}

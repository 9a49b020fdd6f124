package layout_test

import (
	"fmt"
	"math"
	"slices"
	"strings"
	"testing"

	"colonnade/api"
	"colonnade/layout"
)

// mustCheck holds Check to an answer, and Write to the same error.
func mustCheck(t *testing.T, tab api.Table, l api.Layout, want api.Errno) {
	t.Helper()
	if e := layout.Check(tab, l); e != want {
		t.Errorf("Check(%s, %s): %d, not %d", brief(tab), brief(l), e, want)
	}
	if want == api.OK {
		return
	}
	if b, e := layout.Write(tab, l); e != want || len(b) != 0 {
		t.Errorf("Write(%s, %s): %s, %d, not %d", brief(tab), brief(l), brief(b), e, want)
	}
}

// checkAsPlain holds Check to the plain reading.
func checkAsPlain(t *testing.T, tab api.Table, l api.Layout) {
	t.Helper()
	if e, want := layout.Check(tab, l), plainCheck(tab, l); e != want {
		t.Fatalf("Check(%s, %s): %d, not %d", brief(tab), brief(l), e, want)
	}
}

func TestP16_1May(t *testing.T) {
	for _, p := range manyPairs(100) {
		mustCheck(t, p.t, p.l, api.OK)
		checkAsPlain(t, p.t, p.l)
	}
}

// TestP16_1Unfit: whether values fit their codecs Check does not ask.
func TestP16_1Unfit(t *testing.T) {
	two := exampleTable()
	for _, c := range []api.Codec{codec(api.Packed, 0), codec(api.Packed, 1), codec(api.Frame, 0)} {
		l := plainLayout(two, 2)
		l.Codecs[0][0] = c
		mustCheck(t, two, l, api.OK)
	}
}

// tableFaults are tables that may not be, each one step away from one that may.
func tableFaults(tab api.Table) []api.Table {
	var out []api.Table
	turn := func(f func(x *api.Table)) {
		x := copyOf(pair{t: tab}).t
		f(&x)
		out = append(out, x)
	}
	for i := range tab.Rows {
		turn(func(x *api.Table) { x.Rows[i] = nil })
		turn(func(x *api.Table) { x.Rows[i] = x.Rows[i][:len(tab.Columns)-1] })
		turn(func(x *api.Table) { x.Rows[i] = append(x.Rows[i], num(0)) })
		turn(func(x *api.Table) { x.Rows[i] = append(x.Rows[i], null) })
		turn(func(x *api.Table) { x.Rows[i] = append(x.Rows[i], x.Rows[i]...) })
	}
	for c := range tab.Columns {
		for _, name := range []string{"", "9", "_a", "a b", "\u00e9", strings.Repeat("x", 65)} {
			turn(func(x *api.Table) { x.Columns[c].Name = name })
		}
		for _, kind := range []int{0, 3, 4, -1, 257, math.MinInt, math.MaxInt} {
			turn(func(x *api.Table) { x.Columns[c].Type = kind })
		}
	}
	turn(func(x *api.Table) { x.Columns = nil })
	turn(func(x *api.Table) { x.Columns, x.Rows = nil, nil })
	turn(func(x *api.Table) { x.Columns = append(x.Columns, x.Columns[0]) })
	turn(func(x *api.Table) { x.Columns = manyColumns(257); x.Rows = nil })
	return out
}

func TestP16_1Tables(t *testing.T) {
	r := byChance(110)
	for _, cols := range [][]api.Column{fourColumns(), {{Name: "n", Type: api.Int}}, {{Name: "t", Type: api.Text, Null: true}, {Name: "u", Type: api.Text}}} {
		for n := range 4 {
			tab := someTable(r, cols, n)
			l := plainLayout(tab, n)
			mustCheck(t, tab, l, api.OK)
			for _, x := range tableFaults(tab) {
				mustCheck(t, x, l, api.ErrTable)
				checkAsPlain(t, x, l)
				// The table is asked first, whatever the layout is.
				mustCheck(t, x, api.Layout{}, api.ErrTable)
				mustCheck(t, x, plainLayout(tab, -1), api.ErrTable)
			}
		}
	}
}

// TestP16_1ColumnMissing: a column fewer or one more than the rows have.
func TestP16_1ColumnMissing(t *testing.T) {
	tab := someTable(byChance(111), fourColumns(), 3)
	for c := range tab.Columns {
		x := copyOf(pair{t: tab}).t
		x.Columns = slices.Delete(x.Columns, c, c+1)
		mustCheck(t, x, plainLayout(x, 3), api.ErrTable)
	}
	x := copyOf(pair{t: tab}).t
	x.Columns = append(x.Columns, api.Column{Name: "more", Type: api.Int, Null: true})
	mustCheck(t, x, plainLayout(x, 3), api.ErrTable)
}

// TestP16_1Values: at every place of a table every value that its column may have, and others.
func TestP16_1Values(t *testing.T) {
	values := slices.Concat(wrongValues(), row(null, num(0), num(5), word(""), word("5")), edgeValues(api.Int), edgeValues(api.Text))
	tab := someTable(byChance(112), fourColumns(), 3)
	l := plainLayout(tab, 1, 2)
	refused := 0
	for i := range tab.Rows {
		for c, col := range tab.Columns {
			for _, v := range values {
				x := copyOf(pair{t: tab}).t
				x.Rows[i][c] = v
				checkAsPlain(t, x, l)
				if !isOf(col, v) {
					refused++
					mustCheck(t, x, l, api.ErrTable)
				}
			}
		}
	}
	if refused < 3*4*len(wrongValues()) {
		t.Errorf("%d were refused", refused)
	}
}

// TestP16_1Limits: as many values as a table may have, and a row more; all columns that there may be.
func TestP16_1Limits(t *testing.T) {
	for _, cols := range []int{1, 3, 256} {
		one := make([]api.Value, cols)
		for c, col := range manyColumns(cols) {
			one[c] = edgeValues(col.Type)[3]
		}
		most := 1048576 / cols
		tab := api.Table{Columns: manyColumns(cols), Rows: slices.Repeat([][]api.Value{one}, most)}
		mustCheck(t, tab, plainLayout(tab, most), api.OK)
		tab.Rows = append(tab.Rows, one)
		mustCheck(t, tab, plainLayout(tab, most+1), api.ErrTable)
	}
	tab := api.Table{Columns: manyColumns(1), Rows: make([][]api.Value, 16777217)}
	mustCheck(t, tab, plainLayout(tab, 16777217), api.ErrTable)
}

// TestP16_1Groups: every cut of a few rows into numbers around them, and numbers at the ends of an int, the lists being as many.
func TestP16_1Groups(t *testing.T) {
	numbers := []int{-2, -1, 0, 1, 2, 3, 4, math.MinInt, math.MinInt + 1, math.MaxInt, math.MaxInt - 1}
	cuts := [][]int{nil}
	for _, a := range numbers {
		cuts = append(cuts, list(a))
		for _, b := range numbers {
			cuts = append(cuts, list(a, b))
			for _, c := range numbers {
				cuts = append(cuts, list(a, b, c))
			}
		}
	}
	for rows := range 4 {
		tab := oneColumn(rows, func(i int) int64 { return int64(i) })
		for _, cut := range cuts {
			checkAsPlain(t, tab, plainLayout(tab, cut...))
		}
		// Sums that come round to the number of rows.
		mustCheck(t, tab, plainLayout(tab, math.MaxInt, math.MaxInt, 2+rows), api.ErrLayout)
		mustCheck(t, tab, plainLayout(tab, math.MinInt, math.MinInt, rows), api.ErrLayout)
		mustCheck(t, tab, plainLayout(tab, rows, 1<<62, 1<<62, 1<<62, 1<<62), api.ErrLayout)
	}
}

// TestP16_1MaxGroups: as many row groups as there may be, and one more.
func TestP16_1MaxGroups(t *testing.T) {
	for _, rows := range []int{0, 1, 65536} {
		tab := oneColumn(rows, func(i int) int64 { return int64(i) })
		cut := make([]int, 65536)
		for i := range rows {
			cut[i]++
		}
		mustCheck(t, tab, plainLayout(tab, cut...), api.OK)
		mustCheck(t, tab, plainLayout(tab, append(cut, 0)...), api.ErrLayout)
		mustCheck(t, tab, plainLayout(tab, append(list(0), cut...)...), api.ErrLayout)
	}
	tab := oneColumn(65537, func(i int) int64 { return 7 })
	mustCheck(t, tab, plainLayout(tab, slices.Repeat(list(1), 65537)...), api.ErrLayout)
	mustCheck(t, tab, plainLayout(tab, append(slices.Repeat(list(1), 65535), 2)...), api.OK)
}

// TestP16_1Lists: Codecs and Blooms with a list too few or too many, and lists with an element too few or too many, at every place.
func TestP16_1Lists(t *testing.T) {
	tab := someTable(byChance(113), fourColumns(), 5)
	good := plainLayout(tab, 2, 0, 3)
	turn := func(what string, f func(l *api.Layout)) {
		l := copyOfLayout(good)
		f(&l)
		if e := layout.Check(tab, l); e != api.ErrLayout {
			t.Errorf("%s: %d", what, e)
		}
		mustCheck(t, tab, l, api.ErrLayout)
	}
	turn("no codecs", func(l *api.Layout) { l.Codecs = nil })
	turn("no filters", func(l *api.Layout) { l.Blooms = nil })
	turn("neither", func(l *api.Layout) { l.Codecs, l.Blooms = nil, nil })
	turn("nothing", func(l *api.Layout) { *l = api.Layout{} })
	turn("no row groups", func(l *api.Layout) { l.Groups = nil })
	turn("a list of codecs more", func(l *api.Layout) { l.Codecs = append(l.Codecs, l.Codecs[0]) })
	turn("an empty list of codecs more", func(l *api.Layout) { l.Codecs = append(l.Codecs, nil) })
	turn("a list of filters more", func(l *api.Layout) { l.Blooms = append(l.Blooms, l.Blooms[0]) })
	turn("an empty list of filters more", func(l *api.Layout) { l.Blooms = append(l.Blooms, nil) })
	turn("a row group more", func(l *api.Layout) { l.Groups = append(l.Groups, 0) })
	for g := range good.Groups {
		turn("a list of codecs fewer", func(l *api.Layout) { l.Codecs = slices.Delete(l.Codecs, g, g+1) })
		turn("a list of filters fewer", func(l *api.Layout) { l.Blooms = slices.Delete(l.Blooms, g, g+1) })
		turn("codecs of none", func(l *api.Layout) { l.Codecs[g] = nil })
		turn("filters of none", func(l *api.Layout) { l.Blooms[g] = nil })
		turn("a codec fewer", func(l *api.Layout) { l.Codecs[g] = l.Codecs[g][:3] })
		turn("a filter fewer", func(l *api.Layout) { l.Blooms[g] = l.Blooms[g][:3] })
		turn("a codec more", func(l *api.Layout) { l.Codecs[g] = append(l.Codecs[g], codec(1, 0)) })
		turn("a filter more", func(l *api.Layout) { l.Blooms[g] = append(l.Blooms[g], 0) })
		turn("a codec too few here, one too many there", func(l *api.Layout) {
			l.Codecs[g], l.Codecs[(g+1)%3] = l.Codecs[g][:3], append(l.Codecs[(g+1)%3], codec(1, 0))
		})
	}
	for g := range good.Groups {
		l := copyOfLayout(good)
		l.Groups = slices.Delete(l.Groups, g, g+1)
		mustCheck(t, tab, l, api.ErrLayout)
	}
}

// allCodecs are the codecs of all Kinds and Widths, and some that are none.
func allCodecs() []api.Codec {
	var l []api.Codec
	for kind := -1; kind <= 9; kind++ {
		for width := -1; width <= 66; width++ {
			l = append(l, codec(kind, width))
		}
	}
	for _, n := range []int{math.MinInt, math.MaxInt, 256, 257, 258, 260, 261, 1<<32 + 1, 1<<32 + 4, -256} {
		l = append(l, codec(n, 0), codec(1, n), codec(2, n), codec(3, n), codec(4, n), codec(5, n))
	}
	return l
}

// TestP16_1Codecs: every codec at every place of a layout.
func TestP16_1Codecs(t *testing.T) {
	tab := someTable(byChance(114), fourColumns(), 2)
	for g := range 3 {
		for c := range tab.Columns {
			for _, x := range allCodecs() {
				l := plainLayout(tab, 1, 0, 1)
				l.Codecs[g][c] = x
				checkAsPlain(t, tab, l)
			}
		}
	}
}

// TestP16_1Blooms: every size from below 0 to above MaxBloom, and at every place those at the edges.
func TestP16_1Blooms(t *testing.T) {
	two := exampleTable()
	l, taken := plainLayout(two, 2), 0
	for size := -70; size <= 131080; size++ {
		l.Blooms[0][0] = size
		checkAsPlain(t, two, l)
		if layout.Check(two, l) == api.OK {
			taken++
		}
	}
	if taken != 1+14 {
		t.Errorf("%d sizes were taken", taken)
	}
	tab := someTable(byChance(115), fourColumns(), 2)
	for g := range 3 {
		for c := range tab.Columns {
			for _, size := range []int{0, 8, 65536, 64, 7, 9, 4, 1, 24, 65535, 65537, 98304, 131072, -8, -1, 1 << 31, 1 << 32, 1<<32 + 8, 1 << 62, math.MinInt, math.MaxInt} {
				l := plainLayout(tab, 1, 0, 1)
				l.Blooms[g][c] = size
				checkAsPlain(t, tab, l)
			}
		}
	}
}

// TestP16_1GreatFilters: whether sizes may be is told without making filters of them.
func TestP16_1GreatFilters(t *testing.T) {
	tab := api.Table{Columns: manyColumns(16)}
	l := plainLayout(tab, make([]int, 65536)...)
	for g := range l.Blooms {
		for c := range l.Blooms[g] {
			l.Blooms[g][c] = 65536
		}
	}
	if e := layout.Check(tab, l); e != api.OK {
		t.Errorf("2^20 filters of 2^16 bytes: %d", e)
	}
	l.Blooms[65535][15] = 65537
	mustCheck(t, tab, l, api.ErrLayout)
}

// TestW0Check: tables and layouts of any shape are answered, as the plain reading answers them.
func TestW0Check(t *testing.T) {
	r := byChance(116)
	pick := func(l ...int) int { return l[r.IntN(len(l))] }
	met := map[api.Errno]int{}
	for range 30000 {
		var tab api.Table
		for i := range pick(0, 1, 1, 1, 2, 2) {
			tab.Columns = append(tab.Columns, api.Column{Name: []string{"a", "b", "a"}[(i+pick(0, 0, 0, 1))%3], Type: pick(1, 1, 2, 2, 2, 1, 3), Null: r.IntN(2) == 0})
		}
		for range pick(0, 1, 2, 3) {
			var l []api.Value
			for _, c := range tab.Columns {
				l = append(l, api.Value{Kind: pick(c.Type, c.Type, c.Type, c.Type, 0, 1, 2)})
			}
			tab.Rows = append(tab.Rows, append(l, make([]api.Value, pick(0, 0, 0, 0, 0, 0, 1))...))
		}
		var l api.Layout
		for range pick(0, 1, 1, 2) {
			l.Groups = append(l.Groups, pick(len(tab.Rows), len(tab.Rows), 0, 0, 1, 2, -1, math.MaxInt, math.MinInt))
		}
		for range len(l.Groups) + pick(0, 0, 0, 0, 0, 1, -len(l.Groups)) {
			l.Codecs = append(l.Codecs, nil)
			for range max(0, len(tab.Columns)+pick(0, 0, 0, 0, 0, 0, 1, -1)) {
				i := len(l.Codecs) - 1
				l.Codecs[i] = append(l.Codecs[i], codec(pick(1, 2, 3, 3, 2, 1, 1, 1, 4, 0, 9), pick(0, 0, 0, 0, 0, 0, 0, 0, 64, 65, -1)))
			}
		}
		for range len(l.Groups) + pick(0, 0, 0, 0, 0, 1, -len(l.Groups)) {
			l.Blooms = append(l.Blooms, nil)
			for range max(0, len(tab.Columns)+pick(0, 0, 0, 0, 0, 0, 1, -1)) {
				i := len(l.Blooms) - 1
				l.Blooms[i] = append(l.Blooms[i], pick(0, 0, 0, 0, 8, 8, 64, 64, 7, -1))
			}
		}
		checkAsPlain(t, tab, l)
		writeAsPlain(t, tab, l)
		evenAsPlain(t, tab, pick(-1, 0, 1, 2, 3, 4, math.MinInt, math.MaxInt))
		met[layout.Check(tab, l)]++
	}
	for _, e := range []api.Errno{api.OK, api.ErrTable, api.ErrLayout} {
		if met[e] < 1000 {
			t.Errorf("answers: %s", fmt.Sprint(met))
		}
	}
}

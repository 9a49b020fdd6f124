package layout_test

import (
	"math"
	"slices"
	"testing"

	"colonnade/api"
	"colonnade/layout"
)

// mustEven holds Even to an error, and answers the layout.
func mustEven(t *testing.T, tab api.Table, rows int, want api.Errno) api.Layout {
	t.Helper()
	l, e := layout.Even(tab, rows)
	if e != want || e != api.OK && (l.Groups != nil || l.Codecs != nil || l.Blooms != nil) {
		t.Fatalf("Even(%s, %d): %s, %d, not %d", brief(tab), rows, brief(l), e, want)
	}
	return l
}

// evenAsPlain holds Even to the plain reading.
func evenAsPlain(t *testing.T, tab api.Table, rows int) {
	t.Helper()
	want, e := plainEven(tab, rows)
	if l := mustEven(t, tab, rows, e); !sameLayout(l, want) {
		t.Fatalf("Even(%s, %d): %s, not %s", brief(tab), rows, brief(l), brief(want))
	}
}

// TestP16_3Rows: rows of 0 and below, of 1, around the table's, and at the ends of int.
func TestP16_3Rows(t *testing.T) {
	for _, p := range edgePairs() {
		n := len(p.t.Rows)
		for _, rows := range []int{math.MinInt, -n, -1, 0, 1, 2, 3, n / 2, n - 1, n, n + 1, 2 * n, 1 << 31, 1 << 32, math.MaxInt - n, math.MaxInt - 1, math.MaxInt} {
			evenAsPlain(t, p.t, rows)
		}
	}
}

// TestP16_3Cuts: every number of rows of tables of every short length.
func TestP16_3Cuts(t *testing.T) {
	for n := range 30 {
		tab := oneColumn(n, func(i int) int64 { return int64(i * i) })
		for rows := -1; rows <= n+2; rows++ {
			evenAsPlain(t, tab, rows)
		}
	}
	tab := oneColumn(10, func(i int) int64 { return 1 })
	for rows, want := range map[int][]int{1: slices.Repeat(list(1), 10), 2: {2, 2, 2, 2, 2}, 3: {3, 3, 3, 1}, 4: {4, 4, 2}, 5: {5, 5}, 6: {6, 4}, 9: {9, 1}, 10: {10}, 11: {10}, math.MaxInt: {10}} {
		if l := mustEven(t, tab, rows, api.OK); !slices.Equal(l.Groups, want) {
			t.Errorf("Even of 10 rows by %d: %v", rows, l.Groups)
		}
	}
}

// TestP16_3None: a table without rows has no row groups, however many rows are asked for.
func TestP16_3None(t *testing.T) {
	for _, cols := range [][]api.Column{fourColumns(), manyColumns(256)} {
		for _, rows := range []int{1, 2, 1000, math.MaxInt} {
			l := mustEven(t, api.Table{Columns: cols}, rows, api.OK)
			if len(l.Groups)+len(l.Codecs)+len(l.Blooms) != 0 {
				t.Errorf("Even of no rows by %d: %s", rows, brief(l))
			}
		}
	}
}

// TestP16_3Best: each chunk has the codec that is the best of its own values.
func TestP16_3Best(t *testing.T) {
	r, met := byChance(300), map[int]int{}
	tables := []api.Table{
		oneColumn(40, func(i int) int64 { return []int64{5, 900, -1 << 60, math.MaxInt64}[i/10] * int64(i%3) }),
		oneColumn(60, func(i int) int64 { return int64(i*i*i*i) << (i % 50) }),
		oneColumn(64, func(i int) int64 { return 1<<62 + int64(i/20) }),
		{Columns: fourColumns()[3:]},
	}
	for i := range 200 {
		tables[3].Rows = append(tables[3].Rows, row([]api.Value{word("a longer text"), word("another one"), null}[i%3]))
	}
	for n := range 60 {
		tables = append(tables, someTable(r, someColumns(r), n))
	}
	for _, tab := range tables {
		for _, rows := range []int{1, 4, 10, 33} {
			evenAsPlain(t, tab, rows)
			for _, l := range mustEven(t, tab, rows, api.OK).Codecs {
				for _, c := range l {
					met[c.Kind]++
				}
			}
		}
	}
	for kind := 1; kind <= 5; kind++ {
		if met[kind] < 10 {
			t.Errorf("codecs: %v", met)
		}
	}
}

// TestP16_3MaxGroups: as many row groups as there may be, and one more.
func TestP16_3MaxGroups(t *testing.T) {
	tab := oneColumn(65536, func(i int) int64 { return int64(i % 9) })
	if l := mustEven(t, tab, 1, api.OK); len(l.Groups) != 65536 || len(l.Codecs) != 65536 || len(l.Blooms) != 65536 {
		t.Errorf("%d, %d and %d", len(l.Groups), len(l.Codecs), len(l.Blooms))
	}
	tab.Rows = append(tab.Rows, row(num(7)))
	mustEven(t, tab, 1, api.ErrLarge)
	if l := mustEven(t, tab, 2, api.OK); len(l.Groups) != 32769 || l.Groups[32768] != 1 {
		t.Errorf("%d", len(l.Groups))
	}
	most := oneColumn(1048576, func(i int) int64 { return int64(i % 9) })
	for rows, want := range map[int]api.Errno{1: api.ErrLarge, 2: api.ErrLarge, 15: api.ErrLarge, 16: api.OK, 17: api.OK, 1048576: api.OK} {
		l := mustEven(t, most, rows, want)
		if want == api.OK && len(l.Groups) != (1048576+rows-1)/rows {
			t.Errorf("%d row groups of %d", len(l.Groups), rows)
		}
	}
	// Just MaxGroups row groups, the last one shorter, and one that has a row too many for them.
	most.Rows = most.Rows[:65535*3+1]
	mustEven(t, most, 3, api.OK)
	most.Rows = most.Rows[:65536*3]
	mustEven(t, most, 3, api.OK)
	most.Rows = most.Rows[:65536*3+1]
	mustEven(t, most, 3, api.ErrLarge)
}

// TestP16_3Order: a table that may not be is told ahead of rows that may not, and those ahead of too many row groups, of which a number below 1 has none.
func TestP16_3Order(t *testing.T) {
	for _, tab := range tableFaults(someTable(byChance(301), fourColumns(), 3)) {
		for _, rows := range []int{math.MinInt, -1, 0, 1, 2, math.MaxInt} {
			mustEven(t, tab, rows, api.ErrTable)
		}
	}
	long := oneColumn(65537, func(i int) int64 { return 1 })
	mustEven(t, long, 0, api.ErrArg)
	mustEven(t, long, -1, api.ErrArg)
	mustEven(t, long, math.MinInt, api.ErrArg)
	mustEven(t, long, 1, api.ErrLarge)
	long.Rows[65536] = row(null)
	mustEven(t, long, 1, api.ErrTable)
	long = oneColumn(1048577, func(i int) int64 { return 1 })
	mustEven(t, long, 16, api.ErrTable)
	mustEven(t, long, 1048577, api.ErrTable)
}

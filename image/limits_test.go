package image_test

import (
	"bytes"
	"math"
	"slices"
	"testing"

	"colonnade/api"
	"colonnade/image"
)

// sevens are the parts of an image of so many columns of Ints, whose rows are all 7, in runs: a few bytes, however many rows there are.
func sevens(cols int, rows ...uint64) parts {
	x := parts{rows: rows}
	for _, col := range manyColumns(cols) {
		x.columns = append(x.columns, api.Column{Name: col.Name, Type: api.Int})
	}
	for _, n := range rows {
		l := leaf{slices.Concat([]byte{3, 0, 0, 1}, short(n), folded(7)), []byte{0, 1, 14, 14, 0}}
		if n == 0 {
			l = leaf{[]byte{3, 0, 0, 0}, []byte{0, 0, 0}}
		}
		x.leaves = append(x.leaves, slices.Repeat([]leaf{l}, cols))
	}
	return x
}

// lanesOf is the same by lanes of no bits, which are the same bytes for any number of rows.
func lanesOf(cols int, rows ...uint64) parts {
	x := sevens(cols, rows...)
	for g, n := range rows {
		for c := range x.leaves[g] {
			if n > 0 {
				x.leaves[g][c].chunk = append([]byte{4, 0, 0}, low(7, 8)...)
			}
		}
	}
	return x
}

// TestP17_1MaxGroups: as many row groups as there may be, and one more; without rows, and with one each.
func TestP17_1MaxGroups(t *testing.T) {
	for _, each := range []uint64{0, 1, 16} {
		for _, n := range []int{127, 128, 16383, 16384, 65535, 65536, 65537, 65600} {
			x := sevens(1, slices.Repeat([]uint64{each}, n)...)
			b := x.bytes()
			if n > 65536 {
				mustNotOpen(t, "too many row groups", b)
				continue
			}
			m := mustOpen(t, b)
			if m.Groups() != n || m.Total() != n*int(each) || m.Rows(n-1) != int(each) || m.Rows(n) != 0 || len(m.Layout().Groups) != n || len(m.Table().Rows) != n*int(each) {
				t.Fatalf("%d row groups of %d, %d rows", m.Groups(), n, m.Total())
			}
			if _, is := m.Zone(n-1, 0); !is {
				t.Fatal("no record of the last row group")
			}
			mustTellNone(t, m, n, 0)
		}
	}
	// The number alone, whatever stands behind it.
	header := headerOf(sevens(1).columns)
	for _, n := range []uint64{65536, 65537, 1 << 32, 1<<32 + 1, 1 << 63, math.MaxUint64} {
		mustNotOpen(t, "row groups that are not there", sealed(header, short(n), nil))
		mustNotOpen(t, "row groups that are not there", sealed(header, append(short(n), make([]byte, 100)...), nil))
	}
}

// TestP17_1MaxCells: as many values as there may be, and one more, in one row group and in some.
func TestP17_1MaxCells(t *testing.T) {
	for _, x := range []struct {
		cols int
		rows []uint64
		is   bool
	}{
		{1, []uint64{1048576}, true}, {1, []uint64{1048577}, false}, {1, []uint64{1048575, 1}, true}, {1, []uint64{1048576, 1}, false},
		{1, []uint64{1048576, 0}, true}, {1, []uint64{0, 1048576, 0}, true}, {1, []uint64{1, 1048576}, false}, {1, []uint64{524288, 524288}, true}, {1, []uint64{524288, 524289}, false},
		{2, []uint64{524288}, true}, {2, []uint64{524289}, false}, {3, []uint64{349525}, true}, {3, []uint64{349526}, false}, {3, []uint64{349525, 1}, false},
		{64, []uint64{16384}, true}, {64, []uint64{16385}, false}, {255, []uint64{4112}, true}, {255, []uint64{4113}, false},
		{256, []uint64{4096}, true}, {256, []uint64{4097}, false}, {256, []uint64{4095, 1}, true}, {256, []uint64{4096, 1}, false}, {256, []uint64{1000, 3000, 96, 0}, true},
	} {
		runs, lanes := sevens(x.cols, x.rows...).bytes(), lanesOf(x.cols, x.rows...).bytes()
		if !x.is {
			mustNotOpen(t, "too many values in runs", runs)
			mustNotOpen(t, "too many values in lanes", lanes)
			continue
		}
		mustOpen(t, lanes)
		m, total := mustOpen(t, runs), 0
		for g, n := range x.rows {
			total += int(n)
			if m.Rows(g) != int(n) {
				t.Fatalf("Rows(%d) = %d, not %d", g, m.Rows(g), n)
			}
		}
		tab := m.Table()
		if m.Total() != total || len(tab.Rows) != total || !slices.Equal(tab.Rows[total-1], slices.Repeat(row(num(7)), x.cols)) {
			t.Fatalf("%d rows for %d", m.Total(), total)
		}
	}
}

// TestP17_1MaxRows: rows that are told by the directory alone: as many as a table may have, one more, and so many that their sum, or the number of values, goes round.
func TestP17_1MaxRows(t *testing.T) {
	for _, rows := range [][]uint64{
		{16777215}, {16777216}, {16777217}, {16777216, 1}, {16777215, 1, 1}, {1, 16777216}, {16777216, 16777216},
		{1<<32 + 1}, {1 << 32}, {1 << 31}, {1<<31 + 1, 1 << 31}, {1<<32 - 1, 6}, {1<<63 + 1}, {1 << 63, 1<<63 + 5}, {math.MaxUint64, 6}, {6, math.MaxUint64}, {math.MaxUint64}, {math.MaxInt64}, {math.MaxInt64, 7, math.MaxInt64},
		{1<<56 + 1}, {1 << 56, 5}, {5, 1<<56 - 4}, {1 << 48}, {1<<40 + 3}, {1 << 62, 1 << 62, 1 << 62, 1<<62 + 3},
	} {
		for _, cols := range []int{1, 2, 16, 256} {
			mustNotOpen(t, "too many rows", sevens(cols, rows...).bytes())
			mustNotOpen(t, "too many rows", lanesOf(cols, rows...).bytes())
		}
	}
	// Rows that the columns make too many, where each row group alone would do.
	mustNotOpen(t, "many row groups", lanesOf(1, slices.Repeat([]uint64{1048576}, 4096)...).bytes())
	mustNotOpen(t, "many row groups", lanesOf(16, slices.Repeat([]uint64{2}, 32769)...).bytes())
}

// TestP17_1MaxColumns: as many columns as there may be, of all sorts.
func TestP17_1MaxColumns(t *testing.T) {
	for _, n := range []int{1, 127, 128, 255, 256} {
		tab := someTable(byChance(uint64(n)), manyColumns(n), 5)
		p := pair{tab, fittingLayout(byChance(3), tab, list(2, 0, 3))}
		if !openAsPlain(t, imageOf(p)) {
			t.Fatalf("%d columns: no image", n)
		}
	}
}

// TestP17_1MaxBloom: filters of every size a filter may have.
func TestP17_1MaxBloom(t *testing.T) {
	tab := someTable(byChance(105), fourColumns(), 20)
	for _, size := range sizes() {
		p := pair{tab, plainLayout(tab, 0, 13, 7)}
		for g := range p.l.Blooms {
			for c := range p.l.Blooms[g] {
				p.l.Blooms[g][c] = size
			}
		}
		if !openAsPlain(t, imageOf(p)) {
			t.Fatalf("filters of %d bytes: no image", size)
		}
	}
}

// TestP17_1LongTexts: a few bytes that say very many rows of the longest texts are looked at in no time that grows with all of them written out.
func TestP17_1LongTexts(t *testing.T) {
	const rows = 1048576
	a, z := word(longest('a')), word(longest('z'))
	runs := slices.Concat([]byte{3, 0, 0, 1}, short(rows), block(a.Text))
	dict := slices.Concat([]byte{2, 0, 0, 2}, endToEnd(true, row(a, z)), bytes.Repeat([]byte{0x55}, rows/8))
	bytesOf := func(form []byte, z api.Zone) []byte {
		return parts{columns: fourColumns()[3:], rows: []uint64{rows}, leaves: [][]leaf{{{form, recordOf(z)}}}}.bytes()
	}
	// Each of the values once says as much of a record as all of the rows do.
	ask := func(l []api.Value, form []byte, z api.Zone) {
		t.Helper()
		if is := image.Valid(bytesOf(form, z)); is != isSound(l, z) {
			t.Fatalf("an image: %v", is)
		}
	}
	for _, size := range []int{0, 8, 65536} {
		one, both := zoneOf(row(a), size), zoneOf(row(a, z), size)
		ask(row(a), runs, one)
		ask(row(a), runs, both)
		ask(row(a), runs, api.Zone{Min: z, Max: z})
		ask(row(a), runs, zoneOf(row(a, null), size))
		ask(row(a, z), dict, one)
		ask(row(a, z), dict, both)
		ask(row(a, z), dict, api.Zone{Min: a, Max: word(longest('y')), Bloom: both.Bloom})
		ask(row(a, z), dict, api.Zone{Min: a, Max: z, Bloom: one.Bloom})
		ask(row(a, z), dict, api.Zone{})
	}
	tab := mustOpen(t, bytesOf(dict, zoneOf(row(a, z), 0))).Table()
	if len(tab.Rows) != rows || tab.Rows[0][0] != z || tab.Rows[rows-1][0] != a {
		t.Error("the table")
	}
}

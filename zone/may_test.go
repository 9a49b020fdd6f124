package zone_test

import (
	"math"
	"testing"

	"colonnade/api"
	"colonnade/zone"
)

func mustMay(t *testing.T, col api.Column, rows int, z api.Zone, want bool) {
	t.Helper()
	if got := zone.May(col, rows, z); got != want {
		t.Fatalf("May(%s, %d, %s, %d bytes) = %v", brief(col), rows, brief(z), len(z.Bloom), got)
	}
}

func mustSound(t *testing.T, col api.Column, l []api.Value, z api.Zone, want bool) {
	t.Helper()
	if got := zone.Sound(col, l, z); got != want {
		t.Fatalf("Sound(%s, %s, %s, %d bytes) = %v", brief(col), brief(l), brief(z), len(z.Bloom), got)
	}
}

func edgeRows(nulls int) []int {
	return []int{math.MinInt, -16777216, -1, 0, 1, 2, 3, nulls - 1, nulls, nulls + 1, 16777215, 16777216, 16777217, 1 << 32, 1<<32 + 1, math.MaxInt}
}

// TestP14_2EveryEdge: each edge of each part, for columns of every kind, as the plain reading has it.
func TestP14_2EveryEdge(t *testing.T) {
	may := 0
	for _, col := range goodColumns() {
		for _, z := range append(edgeRecords(api.Int), edgeRecords(api.Text)...) {
			for _, rows := range edgeRows(z.Nulls) {
				want := plainMay(col, rows, z)
				mustMay(t, col, rows, z, want)
				if want {
					may++
				}
			}
		}
	}
	if may < 500 {
		t.Errorf("%d records alone that may be", may)
	}
}

func TestP14_2WrongColumn(t *testing.T) {
	for _, col := range badColumns() {
		for _, rows := range []int{0, 1, 2, 5} {
			mustMay(t, col, rows, api.Zone{}, false)
			mustMay(t, col, rows, api.Zone{Nulls: rows}, false)
			mustMay(t, col, rows, api.Zone{Min: num(1), Max: num(2)}, false)
			mustMay(t, col, rows, api.Zone{Min: word("a"), Max: word("b")}, false)
			v := api.Value{Kind: col.Type}
			mustMay(t, col, rows, api.Zone{Min: v, Max: v}, false)
		}
	}
}

// TestP14_2Rows: how many rows there are, beside a record that is for some number of them.
func TestP14_2Rows(t *testing.T) {
	three := api.Zone{Min: num(3), Max: num(9)}
	for rows, want := range map[int]bool{-1: false, 0: false, 1: true, 2: true, 16777215: true, 16777216: true, 16777217: false, math.MaxInt: false, math.MinInt: false} {
		mustMay(t, intCol, rows, three, want)
	}
	for rows, want := range map[int]bool{-1: false, 0: true, 1: false, 2: false, 16777216: false, 16777217: false} {
		mustMay(t, intCol, rows, api.Zone{}, want)
		mustMay(t, textNull, rows, api.Zone{Bloom: make([]byte, 8)}, want)
	}
	most := api.Zone{Nulls: 16777216}
	mustMay(t, intNull, 16777216, most, true)
	mustMay(t, intNull, 16777217, most, false)
	most.Nulls++
	mustMay(t, intNull, 16777217, most, false)
	mustMay(t, intNull, -1, api.Zone{Nulls: -1}, false)
}

// TestP14_2Nulls: Nulls beside rows, and beside Min and Max.
func TestP14_2Nulls(t *testing.T) {
	for nulls := range 6 {
		for rows := range 6 {
			mustMay(t, intNull, rows, api.Zone{Nulls: nulls}, nulls == rows)
			mustMay(t, intNull, rows, api.Zone{Nulls: nulls, Min: num(1), Max: num(1)}, nulls < rows)
			mustMay(t, intCol, rows, api.Zone{Nulls: nulls}, nulls == 0 && rows == 0)
			mustMay(t, textCol, rows, api.Zone{Nulls: nulls, Min: word("a"), Max: word("b")}, nulls == 0 && rows > 0)
		}
	}
}

// TestP14_2Ends: Min and Max by themselves: of each pair of values, and of those that may not be.
func TestP14_2Ends(t *testing.T) {
	for _, col := range goodColumns() {
		l := edgeValues(col.Type)
		for i, least := range l {
			for j, greatest := range l {
				mustMay(t, col, 1, api.Zone{Min: least, Max: greatest}, i <= j)
			}
			mustMay(t, col, 1, api.Zone{Min: least}, false)
			mustMay(t, col, 1, api.Zone{Max: least}, false)
			mustMay(t, col, 0, api.Zone{Max: least}, false)
			for _, v := range append(wrongValues(), edgeValues(3-col.Type)...) {
				for rows := range 2 {
					mustMay(t, col, rows, api.Zone{Min: least, Max: v}, false)
					mustMay(t, col, rows, api.Zone{Min: v, Max: least}, false)
					mustMay(t, col, rows, api.Zone{Min: v, Max: v}, false)
					mustMay(t, col, rows, api.Zone{Min: v}, false)
					mustMay(t, col, rows, api.Zone{Max: v}, false)
				}
			}
		}
	}
}

// TestP14_2SignOfZero: a Null or an Int with a sign at its zero Real is no value, though it compares as one.
func TestP14_2SignOfZero(t *testing.T) {
	minus := api.Value{Real: math.Copysign(0, -1)}
	if minus != null {
		t.Fatal("a zero with a sign compares as none")
	}
	for _, col := range goodColumns() {
		for _, z := range []api.Zone{{Min: minus}, {Max: minus}, {Min: minus, Max: minus}} {
			mustMay(t, col, 0, z, false)
			mustMay(t, col, 1, z, false)
			mustSound(t, col, nil, z, false)
			mustSound(t, col, edgeValues(col.Type)[:1], z, false)
			mustNotPut(t, col, z, api.ErrZone)
		}
	}
	five := num(5)
	signed := api.Value{Kind: api.Int, Int: 5, Real: minus.Real}
	for _, z := range []api.Zone{{Min: five, Max: signed}, {Min: signed, Max: five}, {Min: signed, Max: signed}} {
		mustMay(t, intCol, 1, z, false)
		mustSound(t, intCol, list(five), z, false)
		mustNotPut(t, intCol, z, api.ErrZone)
	}
}

// TestP14_2Bloom: every length up to some, and those around MaxBloom; which bits it has says nothing.
func TestP14_2Bloom(t *testing.T) {
	lengths := []int{4095, 4096, 4097, 65535, 65536, 65537, 98304, 131072, 262144}
	for n := range 1100 {
		lengths = append(lengths, n)
	}
	for _, n := range lengths {
		want := n == 0 || n == 8 || n == 16 || n == 32 || n == 64 || n == 128 || n == 256 || n == 512 || n == 1024 || n == 4096 || n == 65536
		for _, b := range [][]byte{make([]byte, n), someBytes(byChance(uint64(n)), n)} {
			mustMay(t, intCol, 2, api.Zone{Min: num(3), Max: num(9), Bloom: b}, want)
			mustMay(t, textNull, 2, api.Zone{Nulls: 2, Bloom: b}, want)
			mustSound(t, textNull, list(null), api.Zone{Nulls: 1, Bloom: b}, want)
		}
	}
}

// TestP14_3EveryEdge: the edges of records against lists at the edges, as the plain reading has it.
func TestP14_3EveryEdge(t *testing.T) {
	sound := 0
	for i, col := range goodColumns() {
		for _, l := range manyLists(col, 200+uint64(i)) {
			for _, z := range nearRecords(col, l) {
				want := plainSound(col, l, z)
				mustSound(t, col, l, z, want)
				if want {
					sound++
				}
			}
		}
		for _, z := range append(edgeRecords(api.Int), edgeRecords(api.Text)...) {
			for _, l := range [][]api.Value{nil, list(null), list(null, null), edgeValues(col.Type)[3:5], edgeValues(3 - col.Type)[3:5], list(null, edgeValues(col.Type)[4])} {
				mustSound(t, col, l, z, plainSound(col, l, z))
			}
		}
	}
	if sound < 5000 {
		t.Errorf("%d records alone that are sound", sound)
	}
}

// TestP14_3WrittenOut: what makes a record sound, one point after the other.
func TestP14_3WrittenOut(t *testing.T) {
	l := list(num(3), null, num(9), num(3))
	for _, x := range []struct {
		z    api.Zone
		want bool
	}{
		{api.Zone{Nulls: 1, Min: num(3), Max: num(9)}, true},
		{api.Zone{Nulls: 1, Min: num(math.MinInt64), Max: num(math.MaxInt64)}, true},
		{api.Zone{Nulls: 0, Min: num(3), Max: num(9)}, false},
		{api.Zone{Nulls: 2, Min: num(3), Max: num(9)}, false},
		{api.Zone{Nulls: 1, Min: num(4), Max: num(9)}, false},
		{api.Zone{Nulls: 1, Min: num(3), Max: num(8)}, false},
		{api.Zone{Nulls: 1, Min: num(9), Max: num(3)}, false},
		{api.Zone{Nulls: 1}, false},
		{api.Zone{Nulls: 4}, false},
		{api.Zone{Nulls: 1, Min: num(3)}, false},
		{api.Zone{Nulls: 1, Min: num(3), Max: num(9), Bloom: make([]byte, 8)}, false},
		{api.Zone{Nulls: 1, Min: num(3), Max: num(9), Bloom: []byte{255, 255, 255, 255, 255, 255, 255, 255}}, true},
		{api.Zone{Nulls: 1, Min: num(3), Max: num(9), Bloom: []byte{255, 255, 255, 255, 255, 255, 255}}, false},
	} {
		mustSound(t, intNull, l, x.z, x.want)
		mustSound(t, intCol, l, x.z, false)
		mustSound(t, textNull, l, x.z, false)
	}
	mustSound(t, intNull, nil, api.Zone{}, true)
	mustSound(t, intNull, nil, api.Zone{Min: num(3), Max: num(9)}, false)
	mustSound(t, intNull, list(null), api.Zone{Nulls: 1, Min: num(3), Max: num(9)}, false)
	mustSound(t, intNull, list(null, null), api.Zone{Nulls: 2}, true)
	mustSound(t, intCol, nums(5), api.Zone{Min: num(5), Max: num(5), Bloom: []byte{0, 30, 0, 0, 0, 0, 0, 0}}, true)
	mustSound(t, intCol, nums(5), api.Zone{Min: num(5), Max: num(5), Bloom: []byte{0, 28, 0, 0, 0, 0, 0, 0}}, false)
	mustSound(t, textCol, words("a"), api.Zone{Min: word(""), Max: word("a"), Bloom: []byte{2, 0, 0, 0, 0, 16, 8, 4}}, true)
	mustSound(t, textCol, words("a", "b"), api.Zone{Min: word(""), Max: word("b"), Bloom: []byte{2, 0, 0, 0, 0, 16, 8, 4}}, false)
}

// TestP14_3WrongValue: of values that are not of the column no record is sound, however wide it is, and wherever the value stands.
func TestP14_3WrongValue(t *testing.T) {
	for _, col := range goodColumns() {
		l := edgeValues(col.Type)
		wide := api.Zone{Min: l[0], Max: l[len(l)-1]}
		for _, v := range append(wrongValues(), edgeValues(3-col.Type)...) {
			for nulls := range 2 {
				wide.Nulls = nulls
				mustSound(t, col, list(v), wide, false)
				mustSound(t, col, list(v), api.Zone{Nulls: nulls}, false)
				mustSound(t, col, list(v, l[1]), wide, false)
				mustSound(t, col, list(l[1], v), wide, false)
				mustSound(t, col, list(l[1], null, v, l[2]), wide, false)
			}
		}
	}
	mustSound(t, intCol, list(null), api.Zone{Nulls: 1}, false)
	mustSound(t, textCol, list(null), api.Zone{Nulls: 1}, false)
	mustSound(t, textCol, list(null), api.Zone{}, false)
}

func TestP14_3WrongColumn(t *testing.T) {
	for _, col := range badColumns() {
		mustSound(t, col, nil, api.Zone{}, false)
		mustSound(t, col, list(null), api.Zone{Nulls: 1}, false)
		mustSound(t, col, nums(5), api.Zone{Min: num(5), Max: num(5)}, false)
		mustSound(t, col, words("a"), api.Zone{Min: word("a"), Max: word("a")}, false)
		v := api.Value{Kind: col.Type}
		mustSound(t, col, list(v), api.Zone{Min: v, Max: v}, false)
	}
}

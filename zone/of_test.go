package zone_test

import (
	"math"
	"slices"
	"testing"

	"colonnade/api"
	"colonnade/bloom"
	"colonnade/zone"
)

func mustOf(t *testing.T, col api.Column, l []api.Value, size int, want api.Zone) {
	t.Helper()
	if z, e := zone.Of(col, l, size); e != api.OK || !same(z, want) {
		t.Fatalf("Of(%s, %s, %d) = %s, %d; want %s", brief(col), brief(l), size, brief(z), e, brief(want))
	}
}

func mustNotOf(t *testing.T, col api.Column, l []api.Value, size int, want api.Errno) {
	t.Helper()
	if z, e := zone.Of(col, l, size); e != want || !same(z, api.Zone{}) {
		t.Fatalf("Of(%s, %s, %d) = %s, %d; want %d", brief(col), brief(l), size, brief(z), e, want)
	}
}

// ofAsPlain holds Of against the plain reading.
func ofAsPlain(t *testing.T, col api.Column, l []api.Value, size int) {
	t.Helper()
	want, e := plainOf(col, l, size)
	if e != api.OK {
		mustNotOf(t, col, l, size, e)
		return
	}
	mustOf(t, col, l, size, want)
}

// TestP14_1WrittenOut: records that were worked out apart from this program, the filters too.
func TestP14_1WrittenOut(t *testing.T) {
	const least, greatest = math.MinInt64, math.MaxInt64
	for _, x := range []struct {
		col  api.Column
		l    []api.Value
		size int
		want api.Zone
	}{
		{intCol, nil, 0, api.Zone{}},
		{intNull, nil, 0, api.Zone{}},
		{textCol, nil, 0, api.Zone{}},
		{intNull, list(null), 0, api.Zone{Nulls: 1}},
		{textNull, list(null, null, null), 0, api.Zone{Nulls: 3}},
		{intCol, nums(0), 0, api.Zone{Min: num(0), Max: num(0)}},
		{intCol, nums(-7), 0, api.Zone{Min: num(-7), Max: num(-7)}},
		{intCol, nums(5, -5, 3), 0, api.Zone{Min: num(-5), Max: num(5)}},
		{intCol, nums(greatest, least), 0, api.Zone{Min: num(least), Max: num(greatest)}},
		{intCol, nums(1<<53+1, 1<<53), 0, api.Zone{Min: num(1 << 53), Max: num(1<<53 + 1)}},
		{intNull, list(null, num(4), null), 0, api.Zone{Nulls: 2, Min: num(4), Max: num(4)}},
		{textCol, words(""), 0, api.Zone{Min: word(""), Max: word("")}},
		{textCol, words("b", "aa", ""), 0, api.Zone{Min: word(""), Max: word("b")}},
		{textCol, words("\xff", "é", "z"), 0, api.Zone{Min: word("z"), Max: word("\xff")}},
		{textNull, list(word("10"), null, word("9")), 0, api.Zone{Nulls: 1, Min: word("10"), Max: word("9")}},
		{textCol, words(longest('b'), "a"), 0, api.Zone{Min: word("a"), Max: word(longest('b'))}},
		{intNull, list(null), 8, api.Zone{Nulls: 1, Bloom: make([]byte, 8)}},
		{intNull, list(null, num(5)), 8, api.Zone{Nulls: 1, Min: num(5), Max: num(5), Bloom: []byte{0, 30, 0, 0, 0, 0, 0, 0}}},
		{intCol, nums(5, -1), 8, api.Zone{Min: num(-1), Max: num(5), Bloom: []byte{0, 30, 32, 132, 16, 0, 0, 0}}},
		{textNull, list(word("a"), null), 8, api.Zone{Nulls: 1, Min: word("a"), Max: word("a"), Bloom: []byte{2, 0, 0, 0, 0, 16, 8, 4}}},
		{textCol, words(""), 8, api.Zone{Min: word(""), Max: word(""), Bloom: []byte{32, 0, 4, 128, 0, 16, 0, 0}}},
	} {
		mustOf(t, x.col, x.l, x.size, x.want)
	}
}

func TestP14_1ManyLists(t *testing.T) {
	for i, col := range goodColumns() {
		for _, l := range manyLists(col, 100+uint64(i)) {
			for _, size := range []int{0, 8, 16, 512, 7, -8} {
				ofAsPlain(t, col, l, size)
			}
		}
	}
}

// TestP14_1EverySize: the filter is what Build answers of the values that are not Null, whatever the size.
func TestP14_1EverySize(t *testing.T) {
	for i, col := range goodColumns() {
		for _, l := range [][]api.Value{nil, edgeValues(col.Type), someValues(byChance(uint64(i)), col, 50)} {
			for _, size := range sizes() {
				z, e := zone.Of(col, l, size)
				want, f := bloom.Build(size, denseOf(l))
				if e != api.OK || f != api.OK || !slices.Equal(z.Bloom, want) || len(z.Bloom) != size {
					t.Fatalf("Of(%s, %s, %d): %d bytes, %d", brief(col), brief(l), size, len(z.Bloom), e)
				}
			}
		}
	}
}

// TestP14_1NoBloom: 0 is no size of a filter, and asks for none.
func TestP14_1NoBloom(t *testing.T) {
	for _, col := range goodColumns() {
		for _, l := range edgeLists(col) {
			if z, e := zone.Of(col, l, 0); e != api.OK || len(z.Bloom) != 0 {
				t.Fatalf("Of(%s, %s, 0): %d bytes, %d", brief(col), brief(l), len(z.Bloom), e)
			}
		}
	}
}

func TestP14_1WrongColumn(t *testing.T) {
	for _, col := range badColumns() {
		for _, l := range [][]api.Value{nil, list(null), nums(5), words("a"), list(api.Value{Kind: 3, Real: 1})} {
			for _, size := range []int{0, 8, 7} {
				mustNotOf(t, col, l, size, api.ErrSchema)
			}
		}
	}
}

// TestP14_1WrongValue: wherever it stands.
func TestP14_1WrongValue(t *testing.T) {
	for _, col := range goodColumns() {
		wrong := append(wrongValues(), edgeValues(3-col.Type)...)
		if !col.Null {
			wrong = append(wrong, null)
		}
		good := edgeValues(col.Type)
		for _, v := range wrong {
			for _, size := range []int{0, 8} {
				mustNotOf(t, col, list(v), size, api.ErrValue)
				mustNotOf(t, col, list(v, good[1]), size, api.ErrValue)
				mustNotOf(t, col, list(good[1], v, good[2]), size, api.ErrValue)
				mustNotOf(t, col, append(slices.Clone(good), v), size, api.ErrValue)
			}
		}
	}
}

func TestP14_1WrongSize(t *testing.T) {
	for _, col := range goodColumns() {
		for _, size := range wrongSizes() {
			mustNotOf(t, col, nil, size, api.ErrBloom)
			mustNotOf(t, col, edgeValues(col.Type), size, api.ErrBloom)
			if col.Null {
				mustNotOf(t, col, list(null), size, api.ErrBloom)
			}
		}
	}
}

// TestP14_1OrderOfErrors: the column, then how many values, then the values, then the size.
func TestP14_1OrderOfErrors(t *testing.T) {
	many := make([]api.Value, api.MaxRows+1)
	ofReals := api.Column{Type: api.Real, Null: true}
	for _, size := range []int{0, 7, 8} {
		mustNotOf(t, ofReals, many, size, api.ErrSchema)
		mustNotOf(t, ofReals, words("a"), size, api.ErrSchema)
		mustNotOf(t, intNull, many, size, api.ErrLarge)
		mustNotOf(t, intCol, many, size, api.ErrLarge)
		mustNotOf(t, textCol, many, size, api.ErrLarge)
		mustNotOf(t, intCol, words("a"), size, api.ErrValue)
		mustNotOf(t, textCol, list(null), size, api.ErrValue)
	}
	mustNotOf(t, intCol, nums(5), 7, api.ErrBloom)
}

// TestP14_1MaxRows: as many values as there may be are a record's, and one more are not, which no record is sound of.
func TestP14_1MaxRows(t *testing.T) {
	room := make([]api.Value, api.MaxRows+1)
	l := room[:api.MaxRows]
	mustOf(t, textNull, l, 8, api.Zone{Nulls: api.MaxRows, Bloom: make([]byte, 8)})
	if !zone.Sound(textNull, l, api.Zone{Nulls: api.MaxRows}) || zone.Sound(textNull, l, api.Zone{Nulls: api.MaxRows - 1}) {
		t.Error("Sound of MaxRows Nulls")
	}
	if zone.Sound(textNull, room, api.Zone{Nulls: api.MaxRows}) || zone.Sound(textNull, room, api.Zone{Nulls: api.MaxRows + 1}) {
		t.Error("Sound of a Null too many")
	}
	room[api.MaxRows-1] = num(3)
	z := api.Zone{Nulls: api.MaxRows - 1, Min: num(3), Max: num(3)}
	mustOf(t, intNull, l, 0, z)
	if !zone.Sound(intNull, l, z) {
		t.Error("Sound of MaxRows values")
	}
	z.Nulls++
	if zone.Sound(intNull, room, z) {
		t.Error("Sound of a value too many")
	}
	mustNotOf(t, intNull, room, 0, api.ErrLarge)
}

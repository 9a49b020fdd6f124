package layout_test

import (
	"bytes"
	"math"
	"slices"
	"strings"
	"testing"

	"colonnade/api"
	"colonnade/layout"
)

// mustWrite holds Write to an error, and, if that is OK, to the plain reading's bytes, which it answers.
func mustWrite(t *testing.T, tab api.Table, l api.Layout, want api.Errno) []byte {
	t.Helper()
	b, e := layout.Write(tab, l)
	if e != want || e != api.OK && len(b) != 0 {
		t.Fatalf("Write(%s, %s): %s, %d, not %d", brief(tab), brief(l), brief(b), e, want)
	}
	writeAsPlain(t, tab, l)
	return b
}

// writeAsPlain holds Write to the plain reading.
func writeAsPlain(t *testing.T, tab api.Table, l api.Layout) {
	t.Helper()
	want, wantE := plainWrite(tab, l)
	b, e := layout.Write(tab, l)
	if e != wantE || !bytes.Equal(b, want) {
		t.Fatalf("Write(%s, %s): %s, %d, not %s, %d", brief(tab), brief(l), brief(b), e, brief(want), wantE)
	}
}

func TestP16_2Many(t *testing.T) {
	for _, p := range manyPairs(200) {
		mustWrite(t, p.t, p.l, api.OK)
	}
}

// TestP16_2WrittenOut: images whose bytes, the Sums among them, were worked out apart from the program.
func TestP16_2WrittenOut(t *testing.T) {
	two, none := exampleTable(), api.Table{Columns: exampleTable().Columns}
	packed := plainLayout(two, 2)
	packed.Codecs[0][0] = codec(api.Packed, 3)
	three := api.Table{Columns: []api.Column{{Name: "id", Type: api.Int}, {Name: "name", Type: api.Text, Null: true}}}
	three.Rows = [][]api.Value{row(num(1), word("ann")), row(num(2), null), row(num(3), word("bo"))}
	mixed := plainLayout(three, 2, 1)
	mixed.Codecs = [][]api.Codec{{codec(api.Plain, 0), codec(api.Runs, 0)}, {codec(api.Frame, 0), codec(api.Dict, 0)}}
	for i, x := range []struct {
		p    pair
		want []byte
	}{
		{pair{none, api.Layout{}}, []byte{67, 79, 76, 49, 4, 0, 0, 0, 1, 0, 0, 0, 102, 20, 162, 248,
			1, 1, 110, 1, 241, 164, 67, 20,
			0, 141, 239, 2, 210}},
		{pair{two, plainLayout(two, 2)}, []byte{67, 79, 76, 49, 4, 0, 0, 0, 12, 0, 0, 0, 187, 204, 200, 10,
			1, 1, 110, 1, 241, 164, 67, 20,
			1, 2, 19, 166, 157, 220, 177, 0, 1, 10, 12, 0, 50, 87, 213, 243,
			1, 0, 0, 5, 0, 0, 0, 0, 0, 0, 0, 6, 0, 0, 0, 0, 0, 0, 0}},
		{pair{two, packed}, []byte{67, 79, 76, 49, 4, 0, 0, 0, 12, 0, 0, 0, 187, 204, 200, 10,
			1, 1, 110, 1, 241, 164, 67, 20,
			1, 2, 4, 84, 85, 111, 66, 0, 1, 10, 12, 0, 183, 68, 127, 165,
			5, 3, 0, 53}},
		{pair{three, mixed}, []byte{67, 79, 76, 49, 11, 0, 0, 0, 53, 0, 0, 0, 60, 105, 203, 94,
			2, 2, 105, 100, 1, 4, 110, 97, 109, 101, 6, 226, 51, 231, 186,
			2,
			2, 19, 219, 223, 167, 225, 0, 1, 2, 4, 0, 10, 88, 60, 96, 175, 1, 1, 3, 97, 110, 110, 3, 97, 110, 110, 0,
			1, 11, 141, 197, 209, 85, 0, 1, 6, 6, 0, 14, 77, 182, 85, 54, 0, 1, 2, 98, 111, 2, 98, 111, 0, 188, 11, 71, 236,
			1, 0, 0, 1, 0, 0, 0, 0, 0, 0, 0, 2, 0, 0, 0, 0, 0, 0, 0,
			3, 0, 1, 2, 1, 1, 3, 97, 110, 110,
			4, 0, 0, 3, 0, 0, 0, 0, 0, 0, 0,
			2, 0, 0, 1, 0, 0, 0, 0, 2, 0, 0, 0, 98, 111}},
	} {
		if b, e := layout.Write(x.p.t, x.p.l); e != api.OK || !bytes.Equal(b, x.want) {
			t.Errorf("image %d: %d, %v, not %v", i, e, b, x.want)
		}
	}
}

// TestP16_2EveryCodec: every codec that may be, of values that fit it and values that do not.
func TestP16_2EveryCodec(t *testing.T) {
	met := map[api.Errno]int{}
	tables := []api.Table{
		oneColumn(0, nil),
		oneColumn(5, func(i int) int64 { return 7 }),
		oneColumn(9, func(i int) int64 { return int64(i) }),
		oneColumn(3, func(i int) int64 { return -1 }),
		oneColumn(4, func(i int) int64 { return math.MinInt64 + int64(i)<<40 }),
		oneColumn(2, func(i int) int64 { return []int64{math.MinInt64, math.MaxInt64}[i] }),
		oneColumn(2, func(i int) int64 { return []int64{math.MaxInt64, 0}[i] }),
	}
	for bit := range 63 {
		tables = append(tables, oneColumn(2, func(i int) int64 { return []int64{1 << bit, 0}[i] }))
	}
	tables = append(tables, someTable(byChance(201), fourColumns()[3:], 20), someTable(byChance(202), fourColumns()[1:2], 20))
	for _, tab := range tables {
		for _, x := range allCodecs() {
			if !isCodec(tab.Columns[0], x) {
				continue
			}
			l := plainLayout(tab, len(tab.Rows))
			l.Codecs[0][0] = x
			writeAsPlain(t, tab, l)
			_, e := layout.Write(tab, l)
			met[e]++
		}
	}
	if met[api.OK] < 1000 || met[api.ErrUnfit] < 1000 || len(met) != 2 {
		t.Errorf("answers: %v", met)
	}
}

// TestP16_2Unfit: one chunk alone whose values do not fit, at every place; a row group further on may be where they do.
func TestP16_2Unfit(t *testing.T) {
	tab := oneColumn(6, func(i int) int64 { return 0 })
	tab.Columns = append(tab.Columns, api.Column{Name: "m", Type: api.Int})
	for i := range tab.Rows {
		tab.Rows[i] = append(tab.Rows[i], num(0))
	}
	l := plainLayout(tab, 2, 1, 0, 3)
	for g := range l.Codecs {
		l.Codecs[g][0], l.Codecs[g][1] = codec(api.Packed, 0), codec(api.Frame, 0)
	}
	mustWrite(t, tab, l, api.OK)
	for i := range tab.Rows {
		for c := range tab.Columns {
			x := copyOf(pair{t: tab}).t
			x.Rows[i][c] = num(1)
			want := api.ErrUnfit
			// A frame of a single number is one of no bits.
			if c == 1 && i == 2 {
				want = api.OK
			}
			mustCheck(t, x, l, api.OK)
			mustWrite(t, x, l, want)
		}
	}
}

// TestP16_2MaxDict: as many different values as a dictionary may have, and one more.
func TestP16_2MaxDict(t *testing.T) {
	for n, want := range map[int]api.Errno{65536: api.OK, 65537: api.ErrUnfit} {
		tab := oneColumn(n, func(i int) int64 { return int64(i) * 3 })
		l := plainLayout(tab, n)
		l.Codecs[0][0] = codec(api.Dict, 0)
		mustWrite(t, tab, l, want)
		// The same rows in two row groups have two dictionaries.
		l = plainLayout(tab, 1, n-1)
		l.Codecs[0][0], l.Codecs[1][0] = codec(api.Dict, 0), codec(api.Dict, 0)
		mustWrite(t, tab, l, api.OK)
	}
}

// TestP16_2Large: what layer 12 refuses otherwise than with ErrUnfit is told by that number too; so many bytes of texts are beyond what is promised, but the call ends.
func TestP16_2Large(t *testing.T) {
	tab := api.Table{Columns: []api.Column{{Name: "t", Type: api.Text}}, Rows: slices.Repeat([][]api.Value{row(word(longest('x')))}, 65539)}
	if b, e := layout.Write(tab, plainLayout(tab, 65539)); e != api.ErrUnfit || len(b) != 0 {
		t.Errorf("%d bytes, %d", len(b), e)
	}
}

// TestP16_2Filters: filters of every size, of no values, of nulls alone, of numbers and of texts.
func TestP16_2Filters(t *testing.T) {
	tab := someTable(byChance(203), fourColumns(), 40)
	for i := range tab.Rows[:7] {
		tab.Rows[i][1], tab.Rows[i][3] = null, null
	}
	for _, size := range append(sizes(), 0) {
		l := plainLayout(tab, 7, 0, 33)
		for g := range l.Blooms {
			for c := range l.Blooms[g] {
				l.Blooms[g][c] = size
			}
		}
		mustWrite(t, tab, l, api.OK)
	}
}

// TestP16_2Own: each chunk has the codec and the size of a filter that stand at its own place.
func TestP16_2Own(t *testing.T) {
	tab := oneColumn(6, func(i int) int64 { return int64(100 + i) })
	for c := range 2 {
		tab.Columns = append(tab.Columns, api.Column{Name: string(rune('p' + c)), Type: api.Int})
		for i := range tab.Rows {
			tab.Rows[i] = append(tab.Rows[i], num(int64(10*c+i)))
		}
	}
	l := plainLayout(tab, 2, 1, 3)
	width := 50
	for g := range l.Codecs {
		for c := range l.Codecs[g] {
			l.Codecs[g][c] = codec(api.Packed, width)
			l.Blooms[g][c] = sizes()[width-50]
			width++
		}
	}
	mustWrite(t, tab, l, api.OK)
	seen := 0
	for place, x := range apart(t, mustWrite(t, tab, l, api.OK), len(tab.Columns)).chunks {
		if x.bytes[1] != byte(50+3*place.Group+place.Column) || len(x.zone.Bloom) != sizes()[3*place.Group+place.Column] {
			t.Errorf("the chunk of row group %d and column %d: %s", place.Group, place.Column, brief(x))
		}
		seen++
	}
	if seen != 9 {
		t.Errorf("%d chunks", seen)
	}
}

// TestP16_2Lengths: headers, directories and chunks whose lengths want a byte or two more.
func TestP16_2Lengths(t *testing.T) {
	for _, cols := range []int{1, 3, 4, 60, 61, 64, 255, 256} {
		tab := someTable(byChance(204), manyColumns(cols), 3)
		for _, cut := range [][]int{{3}, {1, 1, 1}, {0, 3, 0}, nil} {
			x := tab
			if cut == nil {
				x.Rows = nil
			}
			mustWrite(t, x, plainLayout(x, cut...), api.OK)
		}
	}
	one := api.Table{Columns: []api.Column{{Name: "t", Type: api.Text}}}
	for _, n := range []int{116, 117, 118, 16370, 16371, 16372, 16373, 65535} {
		one.Rows = [][]api.Value{row(word(strings.Repeat("k", n)))}
		mustWrite(t, one, plainLayout(one, 1), api.OK)
	}
	for _, n := range []int{12, 13, 14, 15, 16, 126, 127, 128, 129, 130, 2044, 2045, 2046, 16383, 16384, 100000} {
		tab := oneColumn(n, func(i int) int64 { return int64(i) * 5 })
		mustWrite(t, tab, plainLayout(tab, n), api.OK)
	}
}

// TestP16_2MaxGroups: as many row groups as there may be; so that the directory is long, and is written in no time that grows with its square.
func TestP16_2MaxGroups(t *testing.T) {
	for _, n := range []int{127, 128, 16383, 16384, 65535, 65536} {
		tab := oneColumn(n, func(i int) int64 { return int64(i) })
		mustWrite(t, tab, plainLayout(tab, slices.Repeat(list(1), n)...), api.OK)
	}
	none := api.Table{Columns: fourColumns()}
	mustWrite(t, none, plainLayout(none, make([]int, 65536)...), api.OK)
}

// TestP16_2MaxCells: as many values as a table may have.
func TestP16_2MaxCells(t *testing.T) {
	tab := someTable(byChance(205), manyColumns(16), 65536)
	for _, cut := range [][]int{{65536}, slices.Repeat(list(256), 256)} {
		mustWrite(t, tab, plainLayout(tab, cut...), api.OK)
	}
}

// TestP16_2Again: the same table and layout have the same bytes each time.
func TestP16_2Again(t *testing.T) {
	for _, p := range edgePairs() {
		a, _ := layout.Write(p.t, p.l)
		b, _ := layout.Write(copyOf(p).t, copyOf(p).l)
		if !bytes.Equal(a, b) {
			t.Fatalf("unlike bytes of %s, %s", brief(p.t), brief(p.l))
		}
	}
}

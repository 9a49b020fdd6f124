package layout_test

import (
	"bytes"
	"slices"
	"testing"

	"colonnade/api"
	"colonnade/chunk"
	"colonnade/cursor"
	"colonnade/layout"
	"colonnade/schema"
	"colonnade/zone"
)

// standing is what an image says of a chunk, and the chunk's bytes.
type standing struct {
	rows  int
	zone  api.Zone
	bytes []byte
}

// parts are those of an image.
type parts struct {
	cols   []api.Column
	groups []int
	chunks map[api.Place]standing
}

// four is the number in the four bytes from a place on.
func four(b []byte, at int) int {
	return int(b[at]) + int(b[at+1])<<8 + int(b[at+2])<<16 + int(b[at+3])<<24
}

// apart takes an image apart, by nothing but the lengths in it, and looks at each Sum.
func apart(t *testing.T, b []byte, cols int) parts {
	t.Helper()
	mustSum := func(what string, from, to int) {
		t.Helper()
		if !bytes.Equal(b[to:to+4], sumOf(b[from:to])) {
			t.Fatalf("the Sum of the %s: %v, not %v", what, b[to:to+4], sumOf(b[from:to]))
		}
	}
	if string(b[:4]) != "COL1" {
		t.Fatalf("the first bytes: %v", b[:4])
	}
	mustSum("prelude", 0, 12)
	header := 16
	directory := header + four(b, 4) + 4
	mustSum("header", header, directory-4)
	chunks := directory + four(b, 8) + 4
	mustSum("directory", directory, chunks-4)
	var out parts
	var e api.Errno
	out.cols, e = schema.Take(b[header : directory-4])
	if e != api.OK || len(out.cols) != cols {
		t.Fatalf("the header: %s, %d", brief(out.cols), e)
	}
	r := cursor.Open(b[directory : chunks-4])
	out.chunks = map[api.Place]standing{}
	at := chunks
	for g := range int(r.Uvarint()) {
		rows := int(r.Uvarint())
		out.groups = append(out.groups, rows)
		for c, col := range out.cols {
			long, sum := int(r.Uvarint()), cursor.Take[uint32](r)
			z, e := zone.Take(col, r)
			if e != api.OK || at+long > len(b) {
				t.Fatalf("the record of row group %d and column %d: %d; %d bytes from %d on, of %d", g, c, e, long, at, len(b))
			}
			if piece := b[at : at+long]; !bytes.Equal(low(uint64(sum), 4), sumOf(piece)) {
				t.Fatalf("the Sum of the chunk of row group %d and column %d", g, c)
			}
			out.chunks[api.Place{Group: g, Column: c}] = standing{rows, z, b[at : at+long]}
			at += long
		}
	}
	if e := r.End(); e != api.OK || at != len(b) {
		t.Fatalf("the directory's end: %d; the chunks' end: %d of %d", e, at, len(b))
	}
	return out
}

// mustBeTaken holds the parts of an image to the table and the layout that it was written of.
func mustBeTaken(t *testing.T, tab api.Table, l api.Layout, b []byte) {
	t.Helper()
	p := apart(t, b, len(tab.Columns))
	if !slices.Equal(p.cols, tab.Columns) || !slices.Equal(p.groups, l.Groups) || len(p.chunks) != len(l.Groups)*len(tab.Columns) {
		t.Fatalf("columns %s, row groups %s, %d chunks", brief(p.cols), brief(p.groups), len(p.chunks))
	}
	at := 0
	for g, n := range l.Groups {
		for c, col := range tab.Columns {
			x := p.chunks[api.Place{Group: g, Column: c}]
			values := columnOf(tab, c, at, at+n)
			k, e := chunk.Open(col, n, x.bytes)
			if e != api.OK || !slices.Equal(k.Values(), values) || k.Codec() != l.Codecs[g][c] {
				t.Fatalf("the chunk of row group %d and column %d: %d, %s, %s; want %s", g, c, e, brief(k.Values()), brief(k.Codec()), brief(values))
			}
			if !zone.Sound(col, values, x.zone) || len(x.zone.Bloom) != l.Blooms[g][c] {
				t.Fatalf("the record of row group %d and column %d: %s of %s", g, c, brief(x.zone), brief(values))
			}
		}
		at += n
	}
}

// TestP16_4Plain: Plain holds the values of each table, however it is cut, and whatever filters there are.
func TestP16_4Plain(t *testing.T) {
	r := byChance(400)
	for _, p := range manyPairs(401) {
		l := copyOfLayout(p.l)
		for g := range l.Codecs {
			for c := range l.Codecs[g] {
				l.Codecs[g][c] = codec(api.Plain, 0)
			}
		}
		mustWrite(t, p.t, l, api.OK)
		mustWrite(t, p.t, plainLayout(p.t, someCut(r, len(p.t.Rows))...), api.OK)
	}
}

// TestP16_4Even: so does the layout that Even tells, which is one of the table, with no filter.
func TestP16_4Even(t *testing.T) {
	for _, p := range manyPairs(402) {
		for _, rows := range []int{1, 2, 3, 7, 64, 1000} {
			l := mustEven(t, p.t, rows, api.OK)
			mustCheck(t, p.t, l, api.OK)
			mustBeTaken(t, p.t, l, mustWrite(t, p.t, l, api.OK))
		}
	}
	most := oneColumn(1048576, func(i int) int64 { return int64(i) * 7 })
	for _, rows := range []int{16, 1000, 1048576} {
		l := mustEven(t, most, rows, api.OK)
		b, e := layout.Write(most, l)
		if e != api.OK {
			t.Fatalf("Write by %d rows: %d", rows, e)
		}
		mustBeTaken(t, most, l, b)
	}
}

// TestP16_4Shortest: the chunks of Even's layout are no longer than those of any other with the same row groups.
func TestP16_4Shortest(t *testing.T) {
	for _, p := range manyPairs(404) {
		for _, rows := range []int{1, 5, 1000} {
			l := mustEven(t, p.t, rows, api.OK)
			short, _ := layout.Write(p.t, l)
			other, _ := layout.Write(p.t, plainLayout(p.t, l.Groups...))
			fit, _ := layout.Write(p.t, func() api.Layout {
				x := fittingLayout(byChance(uint64(rows)), p.t, l.Groups)
				x.Blooms = plainLayout(p.t, l.Groups...).Blooms
				return x
			}())
			if len(short) > len(other) || len(short) > len(fit) {
				t.Fatalf("%d bytes, Plain %d, others %d: %s", len(short), len(other), len(fit), brief(p.t))
			}
		}
	}
}

func TestP16_5Apart(t *testing.T) {
	for _, p := range manyPairs(500) {
		mustBeTaken(t, p.t, p.l, mustWrite(t, p.t, p.l, api.OK))
	}
}

// TestP16_5Rows: however a table is cut, the rows of the row groups, one behind the other, are the table's.
func TestP16_5Rows(t *testing.T) {
	r := byChance(501)
	for n := range 30 {
		tab := someTable(r, someColumns(r), n)
		for range 4 {
			l := fittingLayout(r, tab, someCut(r, n))
			p := apart(t, mustWrite(t, tab, l, api.OK), len(tab.Columns))
			for c, col := range tab.Columns {
				var all []api.Value
				for g := range p.groups {
					x := p.chunks[api.Place{Group: g, Column: c}]
					k, _ := chunk.Open(col, x.rows, x.bytes)
					all = append(all, k.Values()...)
				}
				if !slices.Equal(all, columnOf(tab, c, 0, n)) {
					t.Fatalf("column %d: %s, not %s", c, brief(all), brief(columnOf(tab, c, 0, n)))
				}
			}
		}
	}
}

// TestP16_5Order: chunks stand row group by row group, and in each column by column.
func TestP16_5Order(t *testing.T) {
	tab := oneColumn(4, func(i int) int64 { return int64(0x11 * (i + 1)) })
	tab.Columns = append(tab.Columns, api.Column{Name: "m", Type: api.Int})
	for i := range tab.Rows {
		tab.Rows[i] = append(tab.Rows[i], num(int64(0x11*(i+5))))
	}
	b := mustWrite(t, tab, plainLayout(tab, 1, 0, 3), api.OK)
	var want []byte
	for _, l := range [][]byte{{0x11}, {0x55}, {}, {}, {0x22, 0x33, 0x44}, {0x66, 0x77, 0x88}} {
		want = append(want, 1, 0, 0)
		for _, n := range l {
			want = append(want, n, 0, 0, 0, 0, 0, 0, 0)
		}
	}
	if !bytes.HasSuffix(b, want) {
		t.Errorf("the chunks: %v, not %v", b[len(b)-len(want):], want)
	}
}

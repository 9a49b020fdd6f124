package image_test

import (
	"math"
	"slices"
	"testing"

	"colonnade/api"
	"colonnade/image"
)

// mustTell holds all that an image tells to a picture.
func mustTell(t *testing.T, m *image.Image, p picture) {
	t.Helper()
	if !slices.Equal(m.Columns(), p.columns) || m.Groups() != len(p.rows) {
		t.Fatalf("columns %s, %d row groups; want %s, %d", brief(m.Columns()), m.Groups(), brief(p.columns), len(p.rows))
	}
	total := 0
	for g, n := range p.rows {
		total += n
		if m.Rows(g) != n {
			t.Fatalf("Rows(%d) = %d, not %d", g, m.Rows(g), n)
		}
		for c := range p.columns {
			mustTellCell(t, m, p, g, c)
		}
	}
	if m.Total() != total {
		t.Fatalf("Total() = %d, not %d", m.Total(), total)
	}
	if got := m.Table(); !sameTable(got, p.table()) {
		t.Fatalf("Table() = %s, not %s", brief(got), brief(p.table()))
	}
	if got := m.Layout(); !sameLayout(got, p.layout()) {
		t.Fatalf("Layout() = %s, not %s", brief(got), brief(p.layout()))
	}
	for _, g := range []int{-1, len(p.rows)} {
		mustTellNone(t, m, g, 0)
	}
}

func mustTellCell(t *testing.T, m *image.Image, p picture, g, c int) {
	t.Helper()
	want := p.cells[g][c]
	if z, is := m.Zone(g, c); !is || !sameZone(z, want.zone) {
		t.Fatalf("Zone(%d, %d) = %s, %v; want %s", g, c, brief(z), is, brief(want.zone))
	}
	k, is := m.Chunk(g, c)
	if !is || k.Rows() != p.rows[g] || k.Column() != p.columns[c] || k.Codec() != want.codec || !sameValues(k.Values(), want.values) {
		t.Fatalf("Chunk(%d, %d): %v, %d rows, %v, %v, %s; want %v, %s", g, c, is, k.Rows(), k.Column(), k.Codec(), brief(k.Values()), want.codec, brief(want.values))
	}
}

// mustTellNone asks that there is no chunk of these numbers.
func mustTellNone(t *testing.T, m *image.Image, g, c int) {
	t.Helper()
	if z, is := m.Zone(g, c); is || !sameZone(z, api.Zone{}) {
		t.Fatalf("Zone(%d, %d) = %s, %v", g, c, brief(z), is)
	}
	if k, is := m.Chunk(g, c); is || k != nil {
		t.Fatalf("Chunk(%d, %d) = %v, %v", g, c, k, is)
	}
}

// edges are numbers that no row group and no column has, if there are n.
func edges(n int) []int {
	return []int{math.MinInt, math.MinInt + 1, -1 << 32, -n - 1, -n, -2, -1, n, n + 1, 2*n + 1, 1 << 32, 1<<32 + n, math.MaxInt - 1, math.MaxInt}
}

// TestP17_3Outside: row groups and columns asked for by numbers that there are not.
func TestP17_3Outside(t *testing.T) {
	for _, p := range smallPairs() {
		m := mustOpen(t, imageOf(p))
		groups, cols := len(p.l.Groups), len(p.t.Columns)
		for _, g := range edges(groups) {
			if n := m.Rows(g); n != 0 {
				t.Fatalf("Rows(%d) = %d of %d row groups", g, n, groups)
			}
			for _, c := range append(edges(cols), 0, cols-1) {
				mustTellNone(t, m, g, c)
			}
		}
		for g := range groups {
			for _, c := range edges(cols) {
				mustTellNone(t, m, g, c)
			}
		}
	}
}

// TestP17_3Own: each chunk and each record stands at its own place, whatever order it is asked for in.
func TestP17_3Own(t *testing.T) {
	tab := api.Table{Columns: manyColumns(9)}
	for i := range 20 {
		var l []api.Value
		for c, col := range tab.Columns {
			if v := int64(100*i + c); col.Type == api.Int {
				l = append(l, num(v))
			} else {
				l = append(l, word(string(rune('A'+c))+string(rune('a'+i))))
			}
		}
		tab.Rows = append(tab.Rows, l)
	}
	p := pair{tab, plainLayout(tab, 3, 1, 0, 5, 4, 7)}
	for g := range p.l.Blooms {
		for c := range p.l.Blooms[g] {
			p.l.Blooms[g][c] = sizes()[(g+c)%7]
		}
	}
	b := imageOf(p)
	want, is := plainImage(b)
	if !is {
		t.Fatal("no image")
	}
	m := mustOpen(t, b)
	for g := m.Groups() - 1; g >= 0; g-- {
		for c := len(tab.Columns) - 1; c >= 0; c-- {
			mustTellCell(t, m, want, g, c)
			z, _ := m.Zone(g, c)
			if !sameZone(z, zoneOf(columnOf(tab, c, p.from(g), p.from(g+1)), p.l.Blooms[g][c])) {
				t.Fatalf("the record of row group %d and column %d: %s", g, c, brief(z))
			}
		}
	}
}

// TestP17_3Again: the same question has the same answer, whatever was asked in between.
func TestP17_3Again(t *testing.T) {
	for _, p := range manyPairs(300) {
		b := imageOf(p)
		want, _ := plainImage(b)
		m := mustOpen(t, b)
		for range 3 {
			mustTell(t, m, want)
		}
	}
}

// TestP17_3Widths: a codec's width is the one that was written, also where a narrower one would do.
func TestP17_3Widths(t *testing.T) {
	for width := 3; width <= 64; width++ {
		for _, kind := range []int{api.Frame, api.Packed} {
			p := smallPairs()[0]
			p.l.Codecs[0][0] = codec(kind, width)
			m := mustOpen(t, imageOf(p))
			if l := m.Layout(); l.Codecs[0][0] != codec(kind, width) || !sameTable(m.Table(), p.t) {
				t.Fatalf("Layout() = %s, Table() = %s", brief(l), brief(m.Table()))
			}
		}
	}
}

// TestP17_4NotThere: an image that is not there, asked for whatever there might be.
func TestP17_4NotThere(t *testing.T) {
	var zero image.Image
	for _, m := range []*image.Image{nil, {}, new(image.Image), &zero} {
		if len(m.Columns()) != 0 || m.Groups() != 0 || m.Total() != 0 {
			t.Fatalf("columns %v, %d row groups, %d rows", m.Columns(), m.Groups(), m.Total())
		}
		for _, g := range append(edges(1), 0) {
			if n := m.Rows(g); n != 0 {
				t.Fatalf("Rows(%d) = %d", g, n)
			}
			for _, c := range append(edges(1), 0) {
				mustTellNone(t, m, g, c)
			}
		}
		if !sameTable(m.Table(), api.Table{}) || !sameLayout(m.Layout(), api.Layout{}) {
			t.Fatalf("Table() = %s, Layout() = %s", brief(m.Table()), brief(m.Layout()))
		}
	}
}

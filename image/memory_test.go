package image_test

import (
	"bytes"
	"slices"
	"sync"
	"testing"

	"colonnade/api"
	"colonnade/chunk"
	"colonnade/image"
)

// spoil writes over a list and its spare room, and behind it.
func spoil[T any](l []T, with T) {
	_ = append(l, with)
	l = l[:cap(l)]
	for i := range l {
		l[i] = with
	}
	_ = append(l, with)
}

// What no test has.
func spoiltColumn() api.Column { return api.Column{Name: "spoilt!", Type: 77, Null: true} }
func spoiltValue() api.Value   { return api.Value{Kind: 77, Int: 77, Real: 77, Text: "spoilt"} }
func spoiltCodec() api.Codec   { return codec(77, 77) }

func spoilTable(t api.Table) {
	spoil(t.Columns, spoiltColumn())
	for _, l := range t.Rows {
		spoil(l, spoiltValue())
	}
	spoil(t.Rows, row(spoiltValue()))
}

func spoilLayout(l api.Layout) {
	spoil(l.Groups, 77)
	for _, c := range l.Codecs {
		spoil(c, spoiltCodec())
	}
	for _, b := range l.Blooms {
		spoil(b, 77)
	}
	spoil(l.Codecs, []api.Codec{spoiltCodec()})
	spoil(l.Blooms, list(77))
}

// spoilChunk writes over the lists that a chunk answers.
func spoilChunk(c *chunk.Chunk) {
	spoil(c.Values(), spoiltValue())
	for i := range c.Rows() {
		c.Nulls().Put(i, i%2 == 0)
	}
	switch x := c.Body().(type) {
	case chunk.IntPlain:
		spoil(x.Values, 77)
	case chunk.IntDict:
		spoil(x.Keys, 77)
		spoil(x.Codes, 0xEE)
	case chunk.IntFrame:
		spoil(x.Lanes, 0xEE)
	case chunk.TextPlain:
		spoil(x.Values, "spoilt")
	case chunk.TextDict:
		spoil(x.Keys, "spoilt")
		spoil(x.Codes, 0xEE)
	}
}

// spoilAll writes over everything that an image answers.
func spoilAll(m *image.Image) {
	spoil(m.Columns(), spoiltColumn())
	spoilTable(m.Table())
	spoilLayout(m.Layout())
	for g := range m.Groups() {
		for c := range m.Columns() {
			z, _ := m.Zone(g, c)
			spoil(z.Bloom, 0xEE)
			k, _ := m.Chunk(g, c)
			spoilChunk(k)
		}
	}
}

// memoryPairs are some with filters and texts, nulls and all codecs.
func memoryPairs() []pair { return append(smallPairs(), manyPairs(900)...) }

// TestP17_9HandedIn: bytes that are handed in, and what stands behind them, are neither changed nor read again, whether they are an image or not.
func TestP17_9HandedIn(t *testing.T) {
	for _, p := range memoryPairs() {
		b := imageOf(p)
		want, _ := plainImage(b)
		for _, n := range []int{len(b), len(b) - 1, len(b) / 2, 3} {
			room := append(slices.Clone(b), "spare room"...)
			was := slices.Clone(room)
			m, e := image.Open(room[:n])
			is := image.Valid(room[:n])
			if is != (n == len(b)) || is != (e == api.OK) || !bytes.Equal(room, was) {
				t.Fatalf("Open and Valid of %d bytes of %d: %d, %v; the bytes are as they were: %v", n, len(b), e, is, bytes.Equal(room, was))
			}
			spoil(room, 0xEE)
			if is {
				mustTell(t, m, want)
			}
		}
	}
}

// TestP17_9Spoilt: behind answers that were written over and grown an image tells what it told.
func TestP17_9Spoilt(t *testing.T) {
	for _, p := range memoryPairs() {
		b := imageOf(p)
		want, _ := plainImage(b)
		m := mustOpen(t, b)
		spoilAll(m)
		mustTell(t, m, want)
		spoilAll(m)
		mustTell(t, m, want)
		mustTell(t, mustOpen(t, b), want)
	}
}

// TestP17_9Earlier: an answer stays as it was behind a later one that was written over.
func TestP17_9Earlier(t *testing.T) {
	for _, p := range memoryPairs() {
		b := imageOf(p)
		want, _ := plainImage(b)
		m := mustOpen(t, b)
		cols, tab, l := m.Columns(), m.Table(), m.Layout()
		var zones []api.Zone
		for g := range want.rows {
			for c := range want.columns {
				z, _ := m.Zone(g, c)
				zones = append(zones, z)
			}
		}
		spoilAll(m)
		if !slices.Equal(cols, want.columns) || !sameTable(tab, want.table()) || !sameLayout(l, want.layout()) {
			t.Fatalf("columns %s, table %s, layout %s", brief(cols), brief(tab), brief(l))
		}
		for i, z := range zones {
			if !sameZone(z, want.cells[i/len(cols)][i%len(cols)].zone) {
				t.Fatalf("the record number %d: %s", i, brief(z))
			}
		}
	}
}

// TestP17_9TableLists: no two lists of one table share any room: each is written over and grown alone, and the others stay.
func TestP17_9TableLists(t *testing.T) {
	for _, p := range smallPairs() {
		b := imageOf(p)
		m := mustOpen(t, b)
		for i := range len(p.t.Rows) + 1 {
			got, want := m.Table(), copyOf(p).t
			if i == len(p.t.Rows) {
				spoil(got.Columns, spoiltColumn())
				spoil(want.Columns, spoiltColumn())
			} else {
				spoil(got.Rows[i], spoiltValue())
				spoil(want.Rows[i], spoiltValue())
			}
			for k := range got.Rows {
				if !slices.Equal(got.Rows[k], want.Rows[k]) {
					t.Fatalf("the list number %d was written over: row %d is %s", i, k, brief(got.Rows[k]))
				}
			}
			if len(got.Columns) != len(want.Columns) || !slices.Equal(got.Columns, want.Columns) {
				t.Fatalf("the list number %d was written over: columns %s", i, brief(got.Columns))
			}
		}
	}
}

// TestP17_9LayoutLists: nor do two lists of one layout.
func TestP17_9LayoutLists(t *testing.T) {
	for _, p := range smallPairs() {
		m := mustOpen(t, imageOf(p))
		n := len(p.l.Groups)
		for i := range 2*n + 1 {
			got, want := m.Layout(), copyOfLayout(p.l)
			switch {
			case i == 2*n:
				spoil(got.Groups, 77)
				spoil(want.Groups, 77)
			case i >= n:
				spoil(got.Blooms[i-n], 77)
				spoil(want.Blooms[i-n], 77)
			default:
				spoil(got.Codecs[i], spoiltCodec())
				spoil(want.Codecs[i], spoiltCodec())
			}
			if !sameLayout(got, want) {
				t.Fatalf("the list number %d was written over: %s, not %s", i, brief(got), brief(want))
			}
		}
	}
}

// TestP17_9Two: two images of the same bytes are apart.
func TestP17_9Two(t *testing.T) {
	for _, p := range smallPairs() {
		b := imageOf(p)
		want, _ := plainImage(b)
		m, n := mustOpen(t, b), mustOpen(t, b)
		spoilAll(m)
		spoil(b, 0xEE)
		mustTell(t, n, want)
		mustTell(t, m, want)
	}
}

// TestP17_9BesideOneAnother: nothing of an image turns when it is asked, so many may ask it at once.
func TestP17_9BesideOneAnother(t *testing.T) {
	tab := someTable(byChance(901), fourColumns(), 60)
	b := imageOf(pair{tab, fittingLayout(byChance(902), tab, list(20, 0, 33, 7))})
	want, _ := plainImage(b)
	m := mustOpen(t, b)
	var wait sync.WaitGroup
	for range 8 {
		wait.Go(func() {
			for range 10 {
				got, l := m.Table(), m.Layout()
				n, e := image.Open(b)
				if e != api.OK || !sameTable(got, want.table()) || !sameLayout(l, want.layout()) || !sameTable(n.Table(), got) {
					t.Errorf("Table, Layout and Open beside one another: %d", e)
				}
				spoilAll(m)
			}
		})
	}
	wait.Wait()
	mustTell(t, m, want)
}

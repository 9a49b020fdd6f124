package image_test

import (
	"bytes"
	"math"
	"math/rand/v2"
	"slices"
	"strings"
	"testing"

	"colonnade/api"
	"colonnade/image"
	"colonnade/layout"
	"colonnade/zone"
)

// mustWrite is the image that layer 16 writes.
func mustWrite(t *testing.T, tab api.Table, l api.Layout) []byte {
	t.Helper()
	b, e := layout.Write(tab, l)
	if e != api.OK {
		t.Fatalf("Write(%s, %s): %d", brief(tab), brief(l), e)
	}
	return b
}

// mustBack holds the image of a pair to it, the records to what layer 14 says.
func mustBack(t *testing.T, p pair) {
	t.Helper()
	m := mustOpen(t, mustWrite(t, p.t, p.l))
	if !sameTable(m.Table(), p.t) || !sameLayout(m.Layout(), p.l) {
		t.Fatalf("Table() = %s, Layout() = %s; want %s, %s", brief(m.Table()), brief(m.Layout()), brief(p.t), brief(p.l))
	}
	if m.Total() != len(p.t.Rows) || m.Groups() != len(p.l.Groups) || !slices.Equal(m.Columns(), p.t.Columns) {
		t.Fatalf("%d rows, %d row groups, %s", m.Total(), m.Groups(), brief(m.Columns()))
	}
	for g, n := range p.l.Groups {
		for c, col := range p.t.Columns {
			values := columnOf(p.t, c, p.from(g), p.from(g)+n)
			want, _ := zone.Of(col, values, p.l.Blooms[g][c])
			if z, is := m.Zone(g, c); !is || !sameZone(z, want) {
				t.Fatalf("Zone(%d, %d) = %s, %v; want %s", g, c, brief(z), is, brief(want))
			}
			if k, is := m.Chunk(g, c); !is || !sameValues(k.Values(), values) {
				t.Fatalf("Chunk(%d, %d): %s; want %s", g, c, brief(k.Values()), brief(values))
			}
		}
	}
}

func TestP17_5ThereAndBack(t *testing.T) {
	for _, p := range manyPairs(500) {
		mustBack(t, p)
	}
}

// TestP17_5Even: so it is of the layouts that layer 16 tells.
func TestP17_5Even(t *testing.T) {
	for _, p := range manyPairs(501) {
		for _, rows := range []int{1, 3, 1000} {
			l, e := layout.Even(p.t, rows)
			if e != api.OK {
				t.Fatalf("Even: %d", e)
			}
			mustBack(t, pair{p.t, l})
		}
	}
}

// TestP17_5EveryLayout: of every layout of a table the image has the same table.
func TestP17_5EveryLayout(t *testing.T) {
	r := byChance(502)
	for n := range 25 {
		tab := someTable(r, someColumns(r), n)
		for range 8 {
			mustBack(t, pair{tab, fittingLayout(r, tab, someCut(r, n))})
		}
	}
	large := someTable(r, fourColumns(), 20000)
	for _, cut := range [][]int{{20000}, slices.Repeat(list(100), 200), {1, 19999}, {0, 7000, 13000}} {
		mustBack(t, pair{large, plainLayout(large, cut...)})
		mustBack(t, pair{large, fittingLayout(r, large, cut)})
	}
}

// mustBeWrittenAgain holds an image to what Write makes of its table and its layout: the same bytes, just if each record is layer 14's own.
func mustBeWrittenAgain(t *testing.T, b []byte) bool {
	t.Helper()
	m := mustOpen(t, b)
	tab, l := m.Table(), m.Layout()
	if e := layout.Check(tab, l); e != api.OK {
		t.Fatalf("Check(%s, %s): %d", brief(tab), brief(l), e)
	}
	own := true
	for g := range l.Groups {
		for c, col := range tab.Columns {
			k, _ := m.Chunk(g, c)
			z, _ := m.Zone(g, c)
			want, _ := zone.Of(col, k.Values(), l.Blooms[g][c])
			own = own && sameZone(z, want)
		}
	}
	if again := mustWrite(t, tab, l); bytes.Equal(again, b) != own {
		t.Fatalf("written again: %s of %s; the records are layer 14's: %v", brief(again), brief(b), own)
	}
	return own
}

func TestP17_6Again(t *testing.T) {
	for _, p := range manyPairs(600) {
		if !mustBeWrittenAgain(t, imageOf(p)) {
			t.Fatalf("a record that is not layer 14's: %s", brief(p.l))
		}
	}
}

// TestP17_6Wider: also of images with records that are wider than they need be.
func TestP17_6Wider(t *testing.T) {
	r := byChance(601)
	met := map[bool]int{}
	for _, p := range manyPairs(602) {
		if len(p.l.Groups) == 0 {
			continue
		}
		for range 4 {
			x := partsOf(p)
			g, c := r.IntN(len(x.rows)), r.IntN(len(x.columns))
			l := columnOf(p.t, c, p.from(g), p.from(g+1))
			z := wider(r, zoneOf(l, []int{0, 8, 64}[r.IntN(3)]))
			x.leaves[g][c].record = recordOf(z)
			met[mustBeWrittenAgain(t, x.bytes())]++
		}
	}
	if met[true] < 20 || met[false] < 100 {
		t.Errorf("layer 14's and others: %v", met)
	}
}

// wider is a record that is sound of what this one is sound of, by chance the same.
func wider(r *rand.Rand, z api.Zone) api.Zone {
	z.Bloom = slices.Clone(z.Bloom)
	for i := range z.Bloom {
		if r.IntN(8) == 0 {
			z.Bloom[i] |= byte(r.Uint32())
		}
	}
	if r.IntN(2) == 0 {
		return z
	}
	switch {
	case z.Min.Kind == 1 && r.IntN(2) == 0:
		z.Min = num(z.Min.Int - min(int64(r.IntN(200)), z.Min.Int-math.MinInt64))
	case z.Min.Kind == 1:
		z.Max.Int = math.MaxInt64
	case z.Min.Kind == 2 && r.IntN(2) == 0:
		z.Min = word(z.Min.Text[:len(z.Min.Text)/2])
	case z.Min.Kind == 2 && len(z.Max.Text) < 65535:
		z.Max = word(z.Max.Text + "\x00")
	}
	return z
}

// replacements are records that may be for a column, sound of these values or not: every part wider, narrower, moved, left out.
func replacements(col api.Column, l []api.Value) []api.Zone {
	own := zoneOf(l, 8)
	out := []api.Zone{own, zoneOf(l, 0), zoneOf(l, 16), {}, {Nulls: len(l)}}
	with := func(f func(z *api.Zone)) {
		z := own
		z.Bloom = slices.Clone(own.Bloom)
		f(&z)
		if mayBe(col, z) && (z.Min.Kind == 0) == (z.Max.Kind == 0) {
			out = append(out, z)
		}
	}
	with(func(z *api.Zone) { z.Nulls++ })
	with(func(z *api.Zone) { z.Nulls = max(0, z.Nulls-1) })
	with(func(z *api.Zone) { z.Nulls = 16777216 })
	with(func(z *api.Zone) { z.Min, z.Max = null, null })
	with(func(z *api.Zone) { z.Bloom = make([]byte, 8) })
	with(func(z *api.Zone) { z.Bloom = bytes.Repeat([]byte{255}, 8) })
	with(func(z *api.Zone) { z.Bloom = bytes.Repeat([]byte{255}, 64) })
	for i := range own.Bloom {
		with(func(z *api.Zone) { z.Bloom[i] &= z.Bloom[i] - 1 })
		with(func(z *api.Zone) { z.Bloom[i] |= z.Bloom[i] + 1 })
	}
	var ends []api.Value
	for _, v := range append(edgeValues(col.Type)[:9], own.Min, own.Max) {
		if v.Kind == api.Int {
			ends = append(ends, v, num(v.Int+1), num(v.Int-1))
		} else if v.Kind == api.Text {
			ends = append(ends, v, word(v.Text+"\x00"), word(v.Text[:max(0, len(v.Text)-1)]))
		}
	}
	for _, v := range ends {
		with(func(z *api.Zone) { z.Min = v })
		with(func(z *api.Zone) { z.Max = v })
		with(func(z *api.Zone) { z.Min, z.Max = v, v })
		with(func(z *api.Zone) { z.Min, z.Max, z.Bloom = v, word(strings.Repeat("\xff", 20)), nil })
		with(func(z *api.Zone) { z.Min, z.Max, z.Bloom = num(math.MinInt64), v, nil })
	}
	return slices.DeleteFunc(out, func(z api.Zone) bool {
		return !mayBe(col, z) || z.Min.Kind != 0 && (z.Min.Kind != col.Type || z.Max.Kind != col.Type)
	})
}

// TestP17_7Replaced: at the place of each record every other, all lengths and Sums made right.
func TestP17_7Replaced(t *testing.T) {
	met := map[bool]int{}
	for _, p := range append(smallPairs(), manyPairs(700)...) {
		x := partsOf(p)
		if len(x.bytes()) > 700 {
			continue
		}
		for g := range x.leaves {
			for c, col := range x.columns {
				l := columnOf(p.t, c, p.from(g), p.from(g+1))
				for _, z := range replacements(col, l) {
					y := x.copy()
					y.leaves[g][c].record = recordOf(z)
					b := y.bytes()
					if sound := isSound(l, z); sound != zone.Sound(col, l, z) || sound != image.Valid(b) {
						t.Fatalf("the record %s of %s: sound %v, an image %v", brief(z), brief(l), sound, image.Valid(b))
					} else if met[sound]++; sound {
						mustHaveReplaced(t, mustOpen(t, b), p, g, c, z)
					}
				}
			}
		}
	}
	if met[true] < 1000 || met[false] < 1000 {
		t.Errorf("sound and others: %v", met)
	}
}

// mustHaveReplaced holds an image to the record that was replaced; the table is the same.
func mustHaveReplaced(t *testing.T, m *image.Image, p pair, g, c int, z api.Zone) {
	t.Helper()
	if got, is := m.Zone(g, c); !is || !sameZone(got, z) {
		t.Fatalf("Zone(%d, %d) = %s, %v; want %s", g, c, brief(got), is, brief(z))
	}
	l := m.Layout()
	if !sameTable(m.Table(), p.t) || l.Blooms[g][c] != len(z.Bloom) || l.Codecs[g][c] != p.l.Codecs[g][c] || !slices.Equal(l.Groups, p.l.Groups) {
		t.Fatalf("Table() = %s, Layout() = %s", brief(m.Table()), brief(l))
	}
}

// TestP17_7All: all records of an image replaced by chance: one that is not sound is enough.
func TestP17_7All(t *testing.T) {
	r := byChance(701)
	met := map[bool]int{}
	for _, p := range smallPairs() {
		for range 300 {
			x, sound := partsOf(p), true
			for g := range x.leaves {
				for c, col := range x.columns {
					l := columnOf(p.t, c, p.from(g), p.from(g+1))
					some := replacements(col, l)
					z := some[r.IntN(len(some))]
					if r.IntN(5) > 0 {
						z = wider(r, zoneOf(l, []int{0, 8, 16}[r.IntN(3)]))
					}
					x.leaves[g][c].record = recordOf(z)
					sound = sound && isSound(l, z)
				}
			}
			if openAsPlain(t, x.bytes()) != sound {
				t.Fatalf("sound: %v", sound)
			}
			met[sound]++
		}
	}
	if met[true] < 300 || met[false] < 300 {
		t.Errorf("sound and others: %v", met)
	}
}

// TestP17_8Bits: one bit and two bits turned within four bytes, at every place.
func TestP17_8Bits(t *testing.T) {
	for _, p := range smallPairs() {
		b := imageOf(p)
		x := slices.Clone(b)
		for i := range 8 * len(b) {
			x[i/8] ^= 1 << (i % 8)
			mustNotOpen(t, "one bit", x)
			for j := i + 1; j < min(8*(i/8+4), 8*len(b)); j++ {
				x[j/8] ^= 1 << (j % 8)
				mustNotOpen(t, "two bits", x)
				x[j/8] ^= 1 << (j % 8)
			}
			x[i/8] ^= 1 << (i % 8)
		}
		if !bytes.Equal(x, b) || !image.Valid(x) {
			t.Fatal("not as it was")
		}
	}
}

// burst is bytes with those from a place on changed, four at most, in one of some ways.
func burst(r *rand.Rand, b []byte, at, way int) []byte {
	b = slices.Clone(b)
	for i := at; i < min(at+4, len(b)); i++ {
		switch way {
		case 0:
			b[i] = ^b[i]
		case 1:
			b[i] = 0
		case 2:
			b[i] = 255
		case 3:
			b[i]++
		default:
			b[i] ^= byte(r.Uint32() >> r.IntN(25))
		}
	}
	return b
}

// TestP17_8Bursts: four bytes all turned, all the same, each one more, and turned by chance, at every place.
func TestP17_8Bursts(t *testing.T) {
	r := byChance(800)
	for i, p := range append(smallPairs(), manyPairs(801)...) {
		b, ways := imageOf(p), 40
		if i >= len(smallPairs()) {
			ways = 7
		}
		if len(b) > 600 {
			continue
		}
		for at := range b {
			for way := range ways {
				if x := burst(r, b, at, way); !bytes.Equal(x, b) {
					mustNotOpen(t, "a burst", x)
				}
			}
		}
	}
}

// TestP17_8Large: the same in an image of many bytes, at places by chance.
func TestP17_8Large(t *testing.T) {
	r := byChance(802)
	tab := someTable(r, fourColumns(), 300)
	b := imageOf(pair{tab, fittingLayout(r, tab, list(100, 0, 150, 50))})
	for range 3000 {
		if x := burst(r, b, r.IntN(len(b)), 4); !bytes.Equal(x, b) {
			mustNotOpen(t, "a burst", x)
		}
	}
}

// TestP17_2Cuts: no beginning of an image, no end of one, none with bytes behind it or ahead of it is an image.
func TestP17_2Cuts(t *testing.T) {
	for _, p := range smallPairs() {
		b := imageOf(p)
		for n := range b {
			mustNotOpen(t, "a beginning", b[:n])
			mustNotOpen(t, "an end", b[n+1:])
		}
		for c := range 256 {
			mustNotOpen(t, "a byte behind", append(slices.Clone(b), byte(c)))
			mustNotOpen(t, "a byte ahead", append([]byte{byte(c)}, b...))
		}
	}
	r := byChance(803)
	for _, p := range manyPairs(804) {
		b := imageOf(p)
		for _, n := range []int{0, 1, 15, 16, 17, len(b) - 2, len(b) - 1, r.IntN(len(b)), r.IntN(len(b)), r.IntN(len(b)), r.IntN(len(b))} {
			mustNotOpen(t, "a beginning", b[:n])
			mustNotOpen(t, "an end", b[n+1:])
		}
		for _, more := range [][]byte{{0}, {byte(r.Uint32())}, make([]byte, 4), b, b[:16], sumOf(b), bytes.Repeat([]byte{255}, 100)} {
			mustNotOpen(t, "bytes behind", append(slices.Clone(b), more...))
			mustNotOpen(t, "bytes ahead", append(slices.Clone(more), b...))
		}
	}
}

package image_test

import (
	"slices"
	"testing"

	"colonnade/api"
	"colonnade/image"
)

// TestExamples: the chapter's table.
func TestExamples(t *testing.T) {
	two := exampleTable()
	b := mustWrite(t, two, plainLayout(two, 2))
	if want := []byte{67, 79, 76, 49, 4, 0, 0, 0, 12, 0, 0, 0}; !slices.Equal(b[:12], want) {
		t.Errorf("the first 12 bytes: %v", b[:12])
	}
	m := mustOpen(t, b)
	if !slices.Equal(m.Columns(), two.Columns) || m.Groups() != 1 || m.Rows(0) != 2 || m.Rows(1) != 0 || m.Total() != 2 {
		t.Errorf("Columns %v, Groups %d, Rows %d %d, Total %d", m.Columns(), m.Groups(), m.Rows(0), m.Rows(1), m.Total())
	}
	if z, is := m.Zone(0, 0); !is || !sameZone(z, api.Zone{Min: num(5), Max: num(6)}) {
		t.Errorf("Zone(0, 0) = %v, %v", z, is)
	}
	mustTellNone(t, m, 0, 1)
	mustTellNone(t, m, -1, 0)
	if c, is := m.Chunk(0, 0); !is || !slices.Equal(c.Values(), row(num(5), num(6))) {
		t.Errorf("Chunk(0, 0): %v, %v", c.Values(), is)
	}
	if l := m.Layout(); !sameLayout(l, api.Layout{Groups: list(2), Codecs: [][]api.Codec{{{Kind: api.Plain}}}, Blooms: [][]int{{0}}}) {
		t.Errorf("Layout() = %v", l)
	}
	turned := slices.Clone(b)
	turned[0] ^= 1
	for _, x := range [][]byte{append(slices.Clone(b), 0), b[:len(b)-1], turned, nil} {
		mustNotOpen(t, "no image", x)
	}
	var none *image.Image
	if _, is := none.Zone(0, 0); is || none.Groups() != 0 {
		t.Errorf("a nil image: Groups %d, Zone %v", none.Groups(), is)
	}
}

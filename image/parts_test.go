package image_test

import (
	"math/rand/v2"
	"slices"

	"colonnade/api"
)

// leaf is what stands of a chunk: its bytes, and those of its record.
type leaf struct {
	chunk, record []byte
}

// parts are those of an image, to be changed and put together again.
type parts struct {
	columns []api.Column
	rows    []uint64
	leaves  [][]leaf
}

// partsOf are those of the image of a table and a layout whose chunks' values fit.
func partsOf(p pair) parts {
	x := parts{columns: slices.Clone(p.t.Columns)}
	at := 0
	for g, n := range p.l.Groups {
		var leaves []leaf
		for c, col := range p.t.Columns {
			values := columnOf(p.t, c, at, at+n)
			b, _ := formOf(col, values, p.l.Codecs[g][c])
			leaves = append(leaves, leaf{b, recordOf(zoneOf(values, p.l.Blooms[g][c]))})
		}
		x.rows, x.leaves = append(x.rows, uint64(n)), append(x.leaves, leaves)
		at += n
	}
	return x
}

// copy is parts of which no list is shared with these; the bytes of the leaves are, which are never written over.
func (x parts) copy() parts {
	y := parts{columns: slices.Clone(x.columns), rows: slices.Clone(x.rows)}
	for _, l := range x.leaves {
		y.leaves = append(y.leaves, slices.Clone(l))
	}
	return y
}

// lineOf is what the directory says of a leaf.
func lineOf(length uint64, l leaf) []byte {
	return slices.Concat(short(length), sumOf(l.chunk), l.record)
}

// directory is that of the parts, all lengths and Sums right.
func (x parts) directory() []byte {
	b := short(uint64(len(x.rows)))
	for g, n := range x.rows {
		b = append(b, short(n)...)
		for _, l := range x.leaves[g] {
			b = append(b, lineOf(uint64(len(l.chunk)), l)...)
		}
	}
	return b
}

func (x parts) chunks() []byte {
	var b []byte
	for _, leaves := range x.leaves {
		for _, l := range leaves {
			b = append(b, l.chunk...)
		}
	}
	return b
}

// bytes are the image of the parts, if they are those of one: all lengths and Sums are right.
func (x parts) bytes() []byte { return sealed(headerOf(x.columns), x.directory(), x.chunks()) }

// sealed is a header, a directory and chunks, with a prelude and Sums that are right.
func sealed(header, directory, chunks []byte) []byte {
	return sealedAs("COL1", uint64(len(header)), uint64(len(directory)), header, directory, chunks)
}

// sealedAs is the same with those first bytes and lengths; the Sums are right.
func sealedAs(first string, h, d uint64, header, directory, chunks []byte) []byte {
	prelude := slices.Concat([]byte(first), low(h, 4), low(d, 4))
	return slices.Concat(prelude, sumOf(prelude), header, sumOf(header), directory, sumOf(directory), chunks)
}

// imageOf is the image of a pair, by nothing but the plain writer.
func imageOf(p pair) []byte { return partsOf(p).bytes() }

// cut is the three pieces of an image, without the prelude and the Sums.
func cut(b []byte) (header, directory, chunks []byte) {
	r := &reading{b: b}
	first := &reading{b: r.bytes(16)[4:]}
	h, d := first.low(4), first.low(4)
	header = r.bytes(h)
	r.bytes(4)
	directory = r.bytes(d)
	r.bytes(4)
	return header, directory, r.b
}

// turned is bytes with one of them changed, taken out or put in, by chance.
func turned(r *rand.Rand, b []byte) []byte {
	b = slices.Clone(b)
	if len(b) == 0 {
		return []byte{byte(r.Uint32())}
	}
	at, c := r.IntN(len(b)), byte(r.IntN(256)>>r.IntN(8))
	switch r.IntN(5) {
	case 0:
		return slices.Delete(b, at, at+1)
	case 1:
		return slices.Insert(b, at, c)
	case 2:
		b[at] ^= 1 << r.IntN(8)
	case 3:
		b[at] += byte(1 - 2*r.IntN(2))
	default:
		b[at] = c
	}
	return b
}

// smallPairs are those of few bytes, so that much can be done at every place of their images.
func smallPairs() []pair {
	one, none := exampleTable(), api.Table{Columns: exampleTable().Columns}
	three := api.Table{Columns: []api.Column{{Name: "id", Type: api.Int}, {Name: "name", Type: api.Text, Null: true}}}
	three.Rows = [][]api.Value{row(num(1), word("ann")), row(num(2), null), row(num(3), word("bo"))}
	mixed := plainLayout(three, 2, 0, 1)
	mixed.Codecs = [][]api.Codec{{codec(api.Plain, 0), codec(api.Runs, 0)}, {codec(api.Packed, 7), codec(api.Dict, 0)}, {codec(api.Frame, 0), codec(api.Dict, 0)}}
	mixed.Blooms = [][]int{{8, 0}, {0, 0}, {0, 8}}
	four := api.Table{Columns: fourColumns()}
	four.Rows = [][]api.Value{row(num(-3), null, word("x"), word("")), row(num(4), num(1<<40), word("x"), null), row(num(4), num(9), word("yy"), null)}
	dicts := plainLayout(four, 3)
	dicts.Codecs = [][]api.Codec{{codec(api.Frame, 3), codec(api.Dict, 0), codec(api.Runs, 0), codec(api.Plain, 0)}}
	dicts.Blooms = [][]int{{0, 8, 16, 0}}
	return []pair{{one, plainLayout(one, 2)}, {none, api.Layout{}}, {none, plainLayout(none, 0, 0)}, {three, mixed}, {four, dicts}}
}

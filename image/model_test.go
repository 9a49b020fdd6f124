package image_test

import (
	"fmt"
	"hash/crc32"
	"hash/fnv"
	"math"
	"math/big"
	"math/rand/v2"
	"slices"
	"strings"

	"colonnade/api"
)

// What stands in this file leans on no layer: tables are written, and bytes are read, word by word as the chapters say it.

var null = api.Value{}

func num(i int64) api.Value           { return api.Value{Kind: api.Int, Int: i} }
func word(s string) api.Value         { return api.Value{Kind: api.Text, Text: s} }
func row(l ...api.Value) []api.Value  { return l }
func list(l ...int) []int             { return l }
func codec(kind, width int) api.Codec { return api.Codec{Kind: kind, Width: width} }

// sizes are all that a filter may have, written out.
func sizes() []int {
	return []int{8, 16, 32, 64, 128, 256, 512, 1024, 2048, 4096, 8192, 16384, 32768, 65536}
}

// isName says whether a column may have that name, byte by byte.
func isName(s string) bool {
	const letters = "abcdefghijklmnopqrstuvwxyzABCDEFGHIJKLMNOPQRSTUVWXYZ"
	if len(s) < 1 || len(s) > 64 || strings.IndexByte(letters, s[0]) < 0 {
		return false
	}
	return !slices.ContainsFunc([]byte(s), func(c byte) bool { return strings.IndexByte(letters+"0123456789_", c) < 0 })
}

// isColumns says whether columns may be, each held against all ahead of it.
func isColumns(l []api.Column) bool {
	for i, c := range l {
		if !isName(c.Name) || c.Type != 1 && c.Type != 2 {
			return false
		}
		for _, d := range l[:i] {
			if c.Name == d.Name {
				return false
			}
		}
	}
	return 1 <= len(l) && len(l) <= 256
}

// isCodec says whether a codec is one of a column that may be.
func isCodec(col api.Column, c api.Codec) bool {
	if c.Kind == 4 || c.Kind == 5 {
		return col.Type == 1 && 0 <= c.Width && c.Width <= 64
	}
	return 1 <= c.Kind && c.Kind <= 3 && c.Width == 0
}

// short is a number in groups of seven bits.
func short(v uint64) []byte {
	var b []byte
	for v >= 128 {
		b = append(b, byte(v%128)+128)
		v /= 128
	}
	return append(b, byte(v))
}

// low is so many of a number's bytes, the lowest first.
func low(v uint64, n int) []byte {
	var b []byte
	for range n {
		b = append(b, byte(v%256))
		v /= 256
	}
	return b
}

func block(p string) []byte { return append(short(uint64(len(p))), p...) }

// folded is a number with a sign as a short one.
func folded(i int64) []byte {
	if i < 0 {
		return short(2*uint64(-(i+1)) + 1)
	}
	return short(2 * uint64(i))
}

// sumOf is the Sum of some bytes, by the library, in 4 bytes.
func sumOf(b []byte) []byte { return low(uint64(crc32.ChecksumIEEE(b)), 4) }

// bitsOf are lanes of a width, bit by bit.
func bitsOf(codes []uint64, width int) []byte {
	b := make([]byte, (len(codes)*width+7)/8)
	for i, code := range codes {
		for j := range width {
			at := i*width + j
			b[at/8] += byte(code>>j&1) << (at % 8)
		}
	}
	return b
}

// denseOf are the values that are not Null.
func denseOf(l []api.Value) []api.Value {
	return slices.DeleteFunc(slices.Clone(l), func(v api.Value) bool { return v.Kind == 0 })
}

// order holds two numbers or two texts against each other.
func order(v, w api.Value) int {
	switch {
	case v.Int < w.Int:
		return -1
	case v.Int > w.Int:
		return 1
	}
	return strings.Compare(v.Text, w.Text)
}

// endToEnd is dense values by Plain.
func endToEnd(isText bool, l []api.Value) []byte {
	var b, heap []byte
	if !isText {
		for _, v := range l {
			b = append(b, low(uint64(v.Int), 8)...)
		}
		return b
	}
	b = low(0, 4)
	for _, v := range l {
		heap = append(heap, v.Text...)
		b = append(b, low(uint64(len(heap)), 4)...)
	}
	return append(b, heap...)
}

// widthOf is the width of the codes of so many keys.
func widthOf(keys int) int {
	width := 0
	for 1<<width < keys {
		width++
	}
	return width
}

// byDict is dense values by Dict, and whether there are not too many.
func byDict(isText bool, l []api.Value) ([]byte, bool) {
	keys := slices.Compact(slices.SortedFunc(slices.Values(l), order))
	number := map[api.Value]uint64{}
	for i, k := range keys {
		number[k] = uint64(i)
	}
	var codes []uint64
	for _, v := range l {
		codes = append(codes, number[v])
	}
	return slices.Concat(short(uint64(len(keys))), endToEnd(isText, keys), bitsOf(codes, widthOf(len(keys)))), len(keys) <= 65536
}

// valueBytes is a number or a text as runs and records have it.
func valueBytes(v api.Value) []byte {
	if v.Kind == 2 {
		return block(v.Text)
	}
	return folded(v.Int)
}

// byRuns is dense values by Runs.
func byRuns(l []api.Value) []byte {
	var b []byte
	count := 0
	for i := 0; i < len(l); count++ {
		n := 1
		for i+n < len(l) && l[i+n] == l[i] {
			n++
		}
		b = append(append(b, short(uint64(n))...), valueBytes(l[i])...)
		i += n
	}
	return append(short(uint64(count)), b...)
}

// above is numbers as lanes above a base, and whether they fit.
func above(base int64, l []api.Value, width int) ([]byte, bool) {
	most := new(big.Int).Lsh(big.NewInt(1), uint(width))
	var codes []uint64
	for _, v := range l {
		code := new(big.Int).Sub(big.NewInt(v.Int), big.NewInt(base))
		if code.Sign() < 0 || code.Cmp(most) >= 0 {
			return nil, false
		}
		codes = append(codes, code.Uint64())
	}
	return bitsOf(codes, width), true
}

// codecBytes is dense values by a codec of their column, and whether they fit it.
func codecBytes(isText bool, l []api.Value, c api.Codec) ([]byte, bool) {
	switch c.Kind {
	case 1:
		return endToEnd(isText, l), true
	case 2:
		return byDict(isText, l)
	case 3:
		return byRuns(l), true
	case 5:
		return above(0, l, c.Width)
	}
	base := int64(0)
	if len(l) > 0 {
		base = slices.MinFunc(l, order).Int
	}
	b, fit := above(base, l, c.Width)
	return append(low(uint64(base), 8), b...), fit
}

// formOf is a chunk's bytes, and whether its values fit the codec.
func formOf(col api.Column, l []api.Value, c api.Codec) ([]byte, bool) {
	dense := denseOf(l)
	tail, fit := codecBytes(col.Type == 2, dense, c)
	b := append([]byte{byte(c.Kind), byte(c.Width)}, short(uint64(len(l)-len(dense)))...)
	if len(dense) < len(l) {
		null := make([]uint64, len(l))
		for i, v := range l {
			if v.Kind == 0 {
				null[i] = 1
			}
		}
		b = append(b, bitsOf(null, 1)...)
	}
	return append(b, tail...), fit
}

// filterOf is the filter of dense values, by the library's hash; of size 0 none.
func filterOf(size int, l []api.Value) []byte {
	b := make([]byte, size)
	if size == 0 {
		return b
	}
	for _, v := range l {
		h := fnv.New64a()
		if v.Kind == 2 {
			h.Write([]byte("\x02" + v.Text))
		} else {
			h.Write(append([]byte{1}, low(uint64(v.Int), 8)...))
		}
		at, step := h.Sum64()%(1<<32), h.Sum64()/(1<<32)|1
		for range 4 {
			b[at%uint64(8*size)/8] |= 1 << (at % 8)
			at += step
		}
	}
	return b
}

// zoneOf is the record that layer 14 says of values and a size of a filter.
func zoneOf(l []api.Value, size int) api.Zone {
	dense := denseOf(l)
	z := api.Zone{Nulls: len(l) - len(dense), Bloom: filterOf(size, dense)}
	if len(dense) > 0 {
		z.Min, z.Max = slices.MinFunc(dense, order), slices.MaxFunc(dense, order)
	}
	return z
}

// recordOf is the bytes of a record, whether it may be or not.
func recordOf(z api.Zone) []byte {
	b := append(short(uint64(z.Nulls)), 0)
	if z.Min.Kind != 0 {
		b[len(b)-1] = 1
		b = slices.Concat(b, valueBytes(z.Min), valueBytes(z.Max))
	}
	return append(b, block(string(z.Bloom))...)
}

// headerOf is the bytes of columns.
func headerOf(l []api.Column) []byte {
	b := short(uint64(len(l)))
	for _, c := range l {
		mark := byte(c.Type)
		if c.Null {
			mark += 4
		}
		b = append(append(b, block(c.Name)...), mark)
	}
	return b
}

// columnOf are the values of a column, number c, in the rows from one number up to another.
func columnOf(t api.Table, c, from, to int) []api.Value {
	var l []api.Value
	for i := from; i < to; i++ {
		l = append(l, t.Rows[i][c])
	}
	return l
}

// sameValue is whether two values are the same to the last bit.
func sameValue(a, b api.Value) bool {
	return a.Kind == b.Kind && a.Int == b.Int && a.Text == b.Text && math.Float64bits(a.Real) == math.Float64bits(b.Real)
}

func sameValues(a, b []api.Value) bool { return slices.EqualFunc(a, b, sameValue) }

func sameZone(a, b api.Zone) bool {
	return a.Nulls == b.Nulls && sameValue(a.Min, b.Min) && sameValue(a.Max, b.Max) && slices.Equal(a.Bloom, b.Bloom)
}

// sameTable is whether two tables are the same, nil and empty lists being so.
func sameTable(a, b api.Table) bool {
	return slices.Equal(a.Columns, b.Columns) && slices.EqualFunc(a.Rows, b.Rows, sameValues)
}

// sameLayout is whether two layouts are the same, nil and empty lists being so.
func sameLayout(a, b api.Layout) bool {
	return slices.Equal(a.Groups, b.Groups) &&
		slices.EqualFunc(a.Codecs, b.Codecs, slices.Equal[[]api.Codec]) && slices.EqualFunc(a.Blooms, b.Blooms, slices.Equal[[]int])
}

// byChance is a source of numbers, the same in each run.
func byChance(seed uint64) *rand.Rand { return rand.New(rand.NewPCG(17, seed)) }

// brief is a thing as text, bytes that are no letters told as question marks, cut where it is long.
func brief(v any) string {
	s := strings.ToValidUTF8(fmt.Sprintf("%v", v), "?")
	if len(s) > 400 {
		return s[:400] + ".."
	}
	return s
}

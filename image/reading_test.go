package image_test

import (
	"slices"

	"colonnade/api"
)

// reading takes bytes off one behind the other; bad says that something was not there, or not in its one form.
type reading struct {
	b   []byte
	bad bool
}

func (r *reading) bytes(n uint64) []byte {
	if r.bad || n > uint64(len(r.b)) {
		r.bad = true
		return nil
	}
	b := r.b[:n]
	r.b = r.b[n:]
	return b
}

func (r *reading) low(n uint64) uint64 {
	v := uint64(0)
	for i, c := range r.bytes(n) {
		v += uint64(c) << (8 * i)
	}
	return v
}

// short takes all bytes that go on and one that does not, and holds them against the form of what they say.
func (r *reading) short() uint64 {
	var taken []byte
	v := uint64(0)
	for !r.bad {
		c := r.low(1)
		v += c % 128 << (7 * len(taken))
		taken = append(taken, byte(c))
		if c < 128 {
			break
		}
	}
	if r.bad || !slices.Equal(short(v), taken) {
		r.bad = true
		return 0
	}
	return v
}

func (r *reading) block(most uint64) string {
	n := r.short()
	r.bad = r.bad || n > most
	return string(r.bytes(n))
}

// value is a number or a text as runs and records have it.
func (r *reading) value(isText bool) api.Value {
	if isText {
		return word(r.block(65535))
	}
	v := r.short()
	if v%2 == 1 {
		return num(-int64(v/2) - 1)
	}
	return num(int64(v / 2))
}

func (r *reading) lanes(width int, n uint64) []uint64 {
	b := r.bytes((n*uint64(width) + 7) / 8)
	if r.bad {
		return nil
	}
	out := make([]uint64, n)
	for i := range out {
		for j := range width {
			at := i*width + j
			out[i] += uint64(b[at/8]>>(at%8)&1) << j
		}
	}
	return out
}

func (r *reading) endToEnd(isText bool, n uint64) []api.Value {
	var out []api.Value
	if !isText {
		for i := uint64(0); i < n && !r.bad; i++ {
			out = append(out, num(int64(r.low(8))))
		}
		return out
	}
	ends := []uint64{r.low(4)}
	for i := uint64(0); i < n && !r.bad; i++ {
		ends = append(ends, r.low(4))
	}
	for i := uint64(0); i < n && !r.bad; i++ {
		r.bad = ends[i] > ends[i+1] || ends[i+1]-ends[i] > 65535
		out = append(out, word(string(r.bytes(ends[i+1]-ends[i]))))
	}
	return out
}

func (r *reading) dict(isText bool, n uint64) []api.Value {
	count := r.short()
	if r.bad = r.bad || count > 65536; r.bad {
		return nil
	}
	keys := r.endToEnd(isText, count)
	var out []api.Value
	for _, code := range r.lanes(widthOf(int(count)), n) {
		if r.bad = r.bad || code >= uint64(len(keys)); r.bad {
			return nil
		}
		out = append(out, keys[code])
	}
	return out
}

func (r *reading) runs(isText bool, n uint64) []api.Value {
	var out []api.Value
	for count := r.short(); count > 0 && !r.bad; count-- {
		often := r.short()
		v := r.value(isText)
		if r.bad = r.bad || often > n; r.bad {
			return nil
		}
		n -= often
		out = append(out, slices.Repeat(row(v), int(often))...)
	}
	return out
}

func (r *reading) dense(isText bool, c api.Codec, n uint64) []api.Value {
	base := int64(0)
	switch c.Kind {
	case 1:
		return r.endToEnd(isText, n)
	case 2:
		return r.dict(isText, n)
	case 3:
		return r.runs(isText, n)
	case 4:
		base = int64(r.low(8))
	}
	var out []api.Value
	for _, code := range r.lanes(c.Width, n) {
		out = append(out, num(base+int64(code)))
	}
	return out
}

// plainChunk is the values and the codec that bytes say, if they are their form: what was taken off is put again, and held against the bytes.
func plainChunk(col api.Column, rows int, b []byte) ([]api.Value, api.Codec, bool) {
	r := &reading{b: b}
	c := codec(int(r.low(1)), int(r.low(1)))
	count := r.short()
	if r.bad || count > uint64(rows) || count > 0 && !col.Null || !isCodec(col, c) {
		return nil, api.Codec{}, false
	}
	nulls := make([]uint64, rows)
	if count > 0 {
		nulls = r.lanes(1, uint64(rows))
	}
	dense := r.dense(col.Type == 2, c, uint64(rows)-count)
	var l []api.Value
	for _, bit := range nulls {
		if bit == 1 {
			l = append(l, null)
		} else if len(dense) > 0 {
			l, dense = append(l, dense[0]), dense[1:]
		}
	}
	if r.bad || len(l) != rows || len(dense) > 0 {
		return nil, api.Codec{}, false
	}
	again, fit := formOf(col, l, c)
	return l, c, fit && slices.Equal(again, b)
}

// record takes a record, if it may be for the column.
func (r *reading) record(col api.Column) api.Zone {
	nulls := r.short()
	var z api.Zone
	if mark := r.low(1); mark == 1 {
		z.Min, z.Max = r.value(col.Type == 2), r.value(col.Type == 2)
	} else if mark > 1 {
		r.bad = true
	}
	z.Bloom = []byte(r.block(65536))
	z.Nulls = int(min(nulls, 1<<40))
	r.bad = r.bad || !mayBe(col, z)
	return z
}

// mayBe is chapter 14's word of a record that was read.
func mayBe(col api.Column, z api.Zone) bool {
	if z.Nulls > 16777216 || !col.Null && z.Nulls > 0 || order(z.Min, z.Max) > 0 {
		return false
	}
	return len(z.Bloom) == 0 || slices.Contains(sizes(), len(z.Bloom))
}

// isSound is chapter 14's word of a record that may be, value by value.
func isSound(l []api.Value, z api.Zone) bool {
	dense := denseOf(l)
	if len(l)-len(dense) != z.Nulls || (len(dense) == 0) != (z.Min.Kind == 0) {
		return false
	}
	for _, v := range dense {
		if order(v, z.Min) < 0 || order(v, z.Max) > 0 {
			return false
		}
	}
	for i, c := range filterOf(len(z.Bloom), dense) {
		if c&^z.Bloom[i] != 0 {
			return false
		}
	}
	return true
}

// summed takes so many bytes and their Sum.
func (r *reading) summed(n uint64) []byte {
	b := r.bytes(n)
	r.bad = !slices.Equal(r.bytes(4), sumOf(b)) || r.bad
	return b
}

func (r *reading) columns() []api.Column {
	var l []api.Column
	for n := r.short(); n > 0 && !r.bad; n-- {
		name := r.block(64)
		mark := r.low(1)
		l = append(l, api.Column{Name: name, Type: int(mark % 4), Null: mark >= 4})
		r.bad = r.bad || mark > 7
	}
	r.bad = r.bad || len(r.b) > 0 || !isColumns(l)
	return l
}

// cell is what an image says of a chunk.
type cell struct {
	zone   api.Zone
	codec  api.Codec
	values []api.Value
}

// picture is all that an image says.
type picture struct {
	columns []api.Column
	rows    []int
	cells   [][]cell
}

// line is what a directory says of a chunk.
type line struct {
	length, sum uint64
	zone        api.Zone
}

// directory takes all that a directory says.
func (r *reading) directory(cols []api.Column) (rows []int, lines [][]line) {
	count := r.short()
	if r.bad = r.bad || count > 65536; r.bad {
		return nil, nil
	}
	total := uint64(0)
	for range count {
		n := r.short()
		if r.bad = r.bad || n > 16777216; r.bad {
			return nil, nil
		}
		total += n
		var l []line
		for _, col := range cols {
			l = append(l, line{r.short(), r.low(4), r.record(col)})
		}
		rows, lines = append(rows, int(n)), append(lines, l)
	}
	r.bad = r.bad || len(r.b) > 0 || total > 16777216 || total*uint64(len(cols)) > 1048576
	return rows, lines
}

// plainImage is the chapter's word, point by point: what the bytes say, if they are an image.
func plainImage(b []byte) (picture, bool) {
	r := &reading{b: b}
	first := &reading{b: r.summed(12)}
	if r.bad || string(first.bytes(4)) != "COL1" {
		return picture{}, false
	}
	h, d := first.low(4), first.low(4)
	header := &reading{b: r.summed(h)}
	directory := &reading{b: r.summed(d)}
	if r.bad {
		return picture{}, false
	}
	var p picture
	p.columns = header.columns()
	if header.bad {
		return picture{}, false
	}
	var lines [][]line
	p.rows, lines = directory.directory(p.columns)
	if directory.bad {
		return picture{}, false
	}
	for g := range lines {
		var cells []cell
		for c, x := range lines[g] {
			piece := r.bytes(x.length)
			if r.bad || !slices.Equal(sumOf(piece), low(x.sum, 4)) {
				return picture{}, false
			}
			l, k, is := plainChunk(p.columns[c], p.rows[g], piece)
			if !is || !isSound(l, x.zone) {
				return picture{}, false
			}
			cells = append(cells, cell{x.zone, k, l})
		}
		p.cells = append(p.cells, cells)
	}
	return p, len(r.b) == 0
}

// table is that of an image.
func (p picture) table() api.Table {
	t := api.Table{Columns: p.columns}
	for g, n := range p.rows {
		for i := range n {
			var l []api.Value
			for _, c := range p.cells[g] {
				l = append(l, c.values[i])
			}
			t.Rows = append(t.Rows, l)
		}
	}
	return t
}

// layout is that of an image.
func (p picture) layout() api.Layout {
	l := api.Layout{Groups: p.rows}
	for _, cells := range p.cells {
		var codecs []api.Codec
		var blooms []int
		for _, c := range cells {
			codecs, blooms = append(codecs, c.codec), append(blooms, len(c.zone.Bloom))
		}
		l.Codecs, l.Blooms = append(l.Codecs, codecs), append(l.Blooms, blooms)
	}
	return l
}

package image_test

import (
	"bytes"
	"math"
	"slices"
	"strings"
	"testing"

	"colonnade/api"
	"colonnade/image"
)

// mustOpen is the image that bytes are.
func mustOpen(t *testing.T, b []byte) *image.Image {
	t.Helper()
	m, e := image.Open(b)
	if e != api.OK || m == nil || !image.Valid(b) {
		t.Fatalf("Open(%s): %d; Valid: %v", brief(b), e, image.Valid(b))
	}
	return m
}

// mustNotOpen asks that bytes are no image.
func mustNotOpen(t *testing.T, what string, b []byte) {
	t.Helper()
	if m, e := image.Open(b); e != api.ErrMalformed || m != nil || image.Valid(b) {
		t.Fatalf("%s: Open(%s): %d; Valid: %v", what, brief(b), e, image.Valid(b))
	}
}

// openAsPlain holds Valid, Open and all that an image tells to the plain reading, and says whether the bytes are an image.
func openAsPlain(t *testing.T, b []byte) bool {
	t.Helper()
	want, is := plainImage(b)
	if !is {
		mustNotOpen(t, "by the plain reading", b)
		return false
	}
	mustTell(t, mustOpen(t, b), want)
	return true
}

func TestP17_1Many(t *testing.T) {
	for _, p := range manyPairs(100) {
		if b := imageOf(p); !openAsPlain(t, b) {
			t.Fatalf("the image of %s, %s is none: %s", brief(p.t), brief(p.l), brief(b))
		}
	}
}

// TestP17_1WrittenOut: images whose bytes, the Sums among them, were worked out apart from the program.
func TestP17_1WrittenOut(t *testing.T) {
	for _, b := range [][]byte{
		{67, 79, 76, 49, 4, 0, 0, 0, 1, 0, 0, 0, 102, 20, 162, 248, 1, 1, 110, 1, 241, 164, 67, 20, 0, 141, 239, 2, 210},
		{67, 79, 76, 49, 4, 0, 0, 0, 12, 0, 0, 0, 187, 204, 200, 10, 1, 1, 110, 1, 241, 164, 67, 20,
			1, 2, 4, 84, 85, 111, 66, 0, 1, 10, 12, 0, 183, 68, 127, 165, 5, 3, 0, 53},
		{67, 79, 76, 49, 11, 0, 0, 0, 53, 0, 0, 0, 60, 105, 203, 94, 2, 2, 105, 100, 1, 4, 110, 97, 109, 101, 6, 226, 51, 231, 186,
			2, 2, 19, 219, 223, 167, 225, 0, 1, 2, 4, 0, 10, 88, 60, 96, 175, 1, 1, 3, 97, 110, 110, 3, 97, 110, 110, 0,
			1, 11, 141, 197, 209, 85, 0, 1, 6, 6, 0, 14, 77, 182, 85, 54, 0, 1, 2, 98, 111, 2, 98, 111, 0, 188, 11, 71, 236,
			1, 0, 0, 1, 0, 0, 0, 0, 0, 0, 0, 2, 0, 0, 0, 0, 0, 0, 0, 3, 0, 1, 2, 1, 1, 3, 97, 110, 110,
			4, 0, 0, 3, 0, 0, 0, 0, 0, 0, 0, 2, 0, 0, 1, 0, 0, 0, 0, 2, 0, 0, 0, 98, 111},
	} {
		if !openAsPlain(t, b) {
			t.Errorf("no image: %v", b)
		}
	}
}

// TestP17_1TooShort: bytes of every length below that of a prelude, and of that length.
func TestP17_1TooShort(t *testing.T) {
	b := imageOf(smallPairs()[0])
	mustNotOpen(t, "nil", nil)
	for n := range 17 {
		mustNotOpen(t, "an image's beginning", b[:n])
		mustNotOpen(t, "zeros", make([]byte, n))
		mustNotOpen(t, "ones", bytes.Repeat([]byte{255}, n))
		mustNotOpen(t, "the first bytes again and again", bytes.Repeat([]byte("COL1"), 5)[:n])
	}
	// A prelude whose Sum is right, of lengths of which nothing stands behind it.
	for _, n := range []uint64{0, 1, 4, math.MaxUint32} {
		for _, m := range []uint64{0, 1, 12, math.MaxUint32} {
			mustNotOpen(t, "a prelude alone", sealedAs("COL1", n, m, nil, nil, nil)[:16])
		}
	}
}

// TestP17_1FirstBytes: point 1, while all Sums are right.
func TestP17_1FirstBytes(t *testing.T) {
	for _, p := range smallPairs() {
		header, directory, chunks := cut(imageOf(p))
		h, d := uint64(len(header)), uint64(len(directory))
		for _, first := range []string{"COL0", "COL2", "col1", "1LOC", "OL1C", "\x00\x00\x00\x00", "COL\x00", "\x00OL1", "CoL1", "COl1", "CO\xcc1"} {
			mustNotOpen(t, "the first bytes "+first, sealedAs(first, h, d, header, directory, chunks))
		}
		for i := range 32 {
			first := []byte("COL1")
			first[i/8] ^= 1 << (i % 8)
			mustNotOpen(t, "a bit of the first bytes", sealedAs(string(first), h, d, header, directory, chunks))
		}
		if b := sealedAs("COL1", h, d, header, directory, chunks); !openAsPlain(t, b) {
			t.Errorf("no image: %s", brief(b))
		}
	}
}

// TestP17_1Sums: each Sum but the right one, at every bit, also where nothing else is wrong.
func TestP17_1Sums(t *testing.T) {
	for _, p := range smallPairs() {
		b := imageOf(p)
		header, directory, _ := cut(b)
		sums := []int{12, 16 + len(header), 16 + len(header) + 4 + len(directory)}
		for _, at := range sums {
			for bit := range 32 {
				x := slices.Clone(b)
				x[at+bit/8] ^= 1 << (bit % 8)
				mustNotOpen(t, "a Sum", x)
			}
			for _, sum := range []uint64{0, math.MaxUint32, uint64(len(b))} {
				x := slices.Clone(b)
				copy(x[at:], low(sum, 4))
				mustNotOpen(t, "a Sum", x)
			}
			x := slices.Clone(b)
			slices.Reverse(x[at : at+4])
			mustNotOpen(t, "a Sum the other way round", x)
		}
	}
}

// TestP17_1ChunkSums: a Sum of a chunk in the directory, whose own Sum is right.
func TestP17_1ChunkSums(t *testing.T) {
	p := smallPairs()[3]
	x := partsOf(p)
	for g := range x.leaves {
		for c, l := range x.leaves[g] {
			directory := x.directory()
			at := bytes.Index(directory, lineOf(uint64(len(l.chunk)), l)) + 1
			for bit := range 32 {
				d := slices.Clone(directory)
				d[at+bit/8] ^= 1 << (bit % 8)
				mustNotOpen(t, "the Sum of a chunk", sealed(headerOf(x.columns), d, x.chunks()))
			}
			// The Sum of the other chunk's bytes, and bytes that do not have this Sum.
			y := x.copy()
			y.leaves[g][c].chunk = append(slices.Clone(l.chunk), 0)
			mustNotOpen(t, "a byte behind a chunk", y.bytes())
			mustNotOpen(t, "another chunk's bytes", sealed(headerOf(x.columns), directory, y.chunks()))
		}
	}
}

// TestP17_1PreludeLengths: the two lengths 0, one too few, one too many, as great as they go, with the prelude's Sum right.
func TestP17_1PreludeLengths(t *testing.T) {
	for _, p := range smallPairs() {
		b := imageOf(p)
		header, directory, chunks := cut(b)
		h, d := uint64(len(header)), uint64(len(directory))
		edges := func(n uint64) []uint64 {
			return []uint64{0, 1, n - 1, n, n + 1, n + 4, uint64(len(b)), uint64(len(b)) - 20, 1 << 31, 1<<31 - 1, 1<<32 - 16, 1<<32 - 20, 1<<32 - 1, 1<<32 - n}
		}
		for _, n := range edges(h) {
			for _, m := range edges(d) {
				if x := sealedAs("COL1", n, m, header, directory, chunks); openAsPlain(t, x) != (n == h && m == d) {
					t.Fatalf("lengths %d and %d for %d and %d", n, m, h, d)
				}
			}
		}
	}
}

// TestP17_1Shifted: what the lengths cut off has its Sum behind it, but is no header or no directory.
func TestP17_1Shifted(t *testing.T) {
	for _, p := range smallPairs() {
		header, directory, chunks := cut(imageOf(p))
		for n := range header {
			mustNotOpen(t, "a header that is cut", sealed(header[:n], directory, chunks))
			mustNotOpen(t, "a header's end", sealed(header[n+1:], directory, chunks))
		}
		for n := range directory {
			mustNotOpen(t, "a directory that is cut", sealed(header, directory[:n], chunks))
			mustNotOpen(t, "a directory's end", sealed(header, directory[n+1:], chunks))
		}
		for c := range 256 {
			more := []byte{byte(c)}
			mustNotOpen(t, "a byte behind the columns", sealed(append(slices.Clone(header), more...), directory, chunks))
			mustNotOpen(t, "a byte behind the directory", sealed(header, append(slices.Clone(directory), more...), chunks))
			mustNotOpen(t, "a byte behind the last chunk", sealed(header, directory, append(slices.Clone(chunks), more...)))
		}
		mustNotOpen(t, "a directory twice", sealed(header, append(slices.Clone(directory), directory...), chunks))
		mustNotOpen(t, "a directory for a header", sealed(directory, directory, chunks))
	}
}

// TestP17_1Header: columns that may not be, each with the row groups that would be theirs.
func TestP17_1Header(t *testing.T) {
	x := partsOf(smallPairs()[4])
	turn := func(what string, f func(cols []api.Column) []api.Column) {
		y := x.copy()
		y.columns = f(y.columns)
		mustNotOpen(t, what, y.bytes())
	}
	for c := range x.columns {
		for _, name := range []string{"", "9", "_a", "a b", "\u00e9", "a\x00", strings.Repeat("x", 65), x.columns[(c+1)%4].Name} {
			turn("a name "+name, func(l []api.Column) []api.Column { l[c].Name = name; return l })
		}
		for _, kind := range []int{0, 3, 4, 8, 9, 129} {
			turn("a type", func(l []api.Column) []api.Column { l[c].Type = kind; return l })
		}
		// Few chunks are some of a number's and of a text's column both: the empty text's of the last one is that of the number 0.
		y := x.copy()
		y.columns[c].Type = 3 - y.columns[c].Type
		if openAsPlain(t, y.bytes()) != (c == 3) {
			t.Fatalf("column %d of the other type", c)
		}
		turn("a column fewer", func(l []api.Column) []api.Column { return slices.Delete(l, c, c+1) })
		turn("a column more", func(l []api.Column) []api.Column { return slices.Insert(l, c, api.Column{Name: "more", Type: api.Int}) })
	}
	turn("no columns", func(l []api.Column) []api.Column { return nil })
	// Without row groups there is nothing that columns could be unlike.
	for _, n := range []int{1, 2, 255, 256, 257, 300} {
		if b := sealed(headerOf(manyColumns(n)), []byte{0}, nil); openAsPlain(t, b) != (n <= 256) {
			t.Errorf("%d columns", n)
		}
	}
	mustNotOpen(t, "no columns and no row groups", sealed(headerOf(nil), []byte{0}, nil))
	mustNotOpen(t, "no header", sealed(nil, []byte{0}, nil))
	// The number of columns, and of a name's bytes, in more bytes than it wants.
	mustNotOpen(t, "a long number of columns", sealed([]byte{129, 0, 1, 'n', 1}, []byte{0}, nil))
	mustNotOpen(t, "a long number of bytes", sealed([]byte{1, 129, 0, 'n', 1}, []byte{0}, nil))
}

// TestP17_1OtherNames: names and whether nulls may be say nothing of the chunks, unless nulls are there.
func TestP17_1OtherNames(t *testing.T) {
	for _, p := range smallPairs() {
		x := partsOf(p)
		for c, col := range x.columns {
			y := x.copy()
			y.columns[c].Name = "Other_1"
			y.columns[c].Null = true
			if !openAsPlain(t, y.bytes()) {
				t.Fatalf("column %d: no image", c)
			}
			y.columns[c].Null = false
			nulls := slices.ContainsFunc(p.t.Rows, func(l []api.Value) bool { return l[c].Kind == 0 })
			if openAsPlain(t, y.bytes()) == nulls {
				t.Fatalf("column %d, %v, without nulls", c, col)
			}
		}
	}
}

// TestP17_1NoDirectory: short directories that are none.
func TestP17_1NoDirectory(t *testing.T) {
	header := headerOf(exampleTable().Columns)
	for _, b := range [][]byte{nil, {1}, {128}, {128, 0}, {129, 0}, {0, 0}, {1, 0}, {1, 0, 0}, {255, 255, 255, 255, 255, 255, 255, 255, 255, 1}, {255, 255, 255, 255, 255, 255, 255, 255, 255, 2}, {128, 128, 4}, {129, 128, 4}} {
		mustNotOpen(t, "no directory", sealed(header, b, nil))
	}
	for n := range 3 {
		b := make([]byte, n)
		for i := range 1 << (8 * n) {
			copy(b, low(uint64(i), n))
			if x := sealed(header, b, nil); openAsPlain(t, x) != (n == 1 && i == 0) {
				t.Fatalf("the directory %v", b)
			}
		}
	}
}

// long is a number in one byte more than it wants.
func long(v uint64) []byte {
	b := short(v)
	b[len(b)-1] |= 128
	return append(b, 0)
}

// TestP17_1Numbers: each number of the directory in a form that is not its shortest, or another number.
func TestP17_1Numbers(t *testing.T) {
	for _, p := range smallPairs() {
		x := partsOf(p)
		header, chunks := headerOf(x.columns), x.chunks()
		mustNotOpen(t, "how many row groups", sealed(header, append(long(uint64(len(x.rows))), x.directory()[1:]...), chunks))
		for g := range x.rows {
			for _, form := range [][]byte{long(x.rows[g]), short(x.rows[g] + 1<<20), short(x.rows[g] + 1<<24), short(x.rows[g] + 1<<32), short(x.rows[g] + 1<<63), short(math.MaxUint64), bytes.Repeat([]byte{255}, 10)} {
				b := x.with(g, func() []byte { return form }, nil)
				mustNotOpen(t, "how many rows", sealed(header, b, chunks))
			}
			for c := range x.columns {
				n := uint64(len(x.leaves[g][c].chunk))
				for _, form := range [][]byte{long(n), short(0), short(n - 1), short(n + 1), short(n + 1<<32), short(n + 1<<63), short(1 << 63), short(math.MaxUint64), short(math.MaxUint64 - n), short(-n), short(math.MaxInt64), bytes.Repeat([]byte{255}, 10), append(bytes.Repeat([]byte{255}, 9), 2)} {
					b := x.with(g, nil, func(k int) []byte {
						if k == c {
							return form
						}
						return nil
					})
					mustNotOpen(t, "the length of a chunk", sealed(header, b, chunks))
				}
			}
		}
	}
}

// with is the directory in which the rows of the row group number g, and the lengths of its chunks, stand as told, if they are.
func (x parts) with(g int, rows func() []byte, length func(c int) []byte) []byte {
	b := short(uint64(len(x.rows)))
	for i := range x.rows {
		if i == g && rows != nil {
			b = append(b, rows()...)
		} else {
			b = append(b, short(x.rows[i])...)
		}
		for c, l := range x.leaves[i] {
			n := short(uint64(len(l.chunk)))
			if i == g && length != nil && length(c) != nil {
				n = length(c)
			}
			b = slices.Concat(b, n, sumOf(l.chunk), l.record)
		}
	}
	return b
}

// TestP17_1NextChunk: chunks that begin a byte too early or too late, together as long as they should be, the Sums being those of the pieces.
func TestP17_1NextChunk(t *testing.T) {
	for _, p := range smallPairs() {
		x := partsOf(p)
		for g := range x.leaves {
			for c := range len(x.columns) - 1 {
				a, b := x.leaves[g][c].chunk, x.leaves[g][c+1].chunk
				both := append(slices.Clone(a), b...)
				for n := range len(both) + 1 {
					y := x.copy()
					y.leaves[g][c].chunk, y.leaves[g][c+1].chunk = both[:n], both[n:]
					if openAsPlain(t, y.bytes()) != (n == len(a)) {
						t.Fatalf("the chunk of column %d has %d bytes for %d", c, n, len(a))
					}
				}
			}
		}
	}
}

// TestP17_1OtherChunks: at the place of each chunk every form of some others: of other columns, other numbers of rows, other codecs, and what is no chunk.
func TestP17_1OtherChunks(t *testing.T) {
	forms := [][]byte{nil, {1}, {1, 0}, {1, 0, 0}, {0, 0, 0}, {6, 0, 0}, {1, 1, 0}, {2, 0, 0, 0}, {3, 0, 0, 0}, {1, 0, 128, 0}, {5, 65, 0}, {4, 0, 0}}
	for _, p := range smallPairs() {
		for _, leaves := range partsOf(p).leaves {
			for _, l := range leaves {
				forms = append(forms, l.chunk, append(slices.Clone(l.chunk), 0), l.chunk[:len(l.chunk)-1])
			}
		}
	}
	for n := range 5 {
		for _, col := range fourColumns() {
			l := columnOf(someTable(byChance(uint64(n)), []api.Column{col}, n), 0, 0, n)
			for kind := 1; kind <= 5; kind++ {
				if c := codec(kind, 64*(kind/4)); isCodec(col, c) {
					if b, fit := formOf(col, l, c); fit {
						forms = append(forms, b)
					}
				}
			}
		}
	}
	opened := 0
	for _, p := range smallPairs() {
		x := partsOf(p)
		for g := range x.leaves {
			for c := range x.leaves[g] {
				for _, b := range forms {
					y := x.copy()
					y.leaves[g][c].chunk = b
					if openAsPlain(t, y.bytes()) {
						opened++
					}
				}
			}
		}
	}
	if opened < 20 || opened > len(forms)*8 {
		t.Errorf("%d images", opened)
	}
}

// TestP17_1OtherRows: a row group's number of rows one more and one fewer, where every record and every chunk stays. A chunk of lanes without bits is one of any number of rows.
func TestP17_1OtherRows(t *testing.T) {
	met := map[bool]int{}
	for _, p := range manyPairs(101) {
		x := partsOf(p)
		for g := range min(len(x.rows), 3) {
			y := x.copy()
			y.rows[g]++
			met[openAsPlain(t, y.bytes())]++
			if x.rows[g] > 0 {
				y.rows[g] -= 2
				met[openAsPlain(t, y.bytes())]++
			}
		}
	}
	if met[true] < 3 || met[false] < 300 {
		t.Errorf("images and others: %v", met)
	}
	for _, p := range []pair{smallPairs()[0], smallPairs()[4]} {
		x := partsOf(p)
		x.rows[0]++
		mustNotOpen(t, "a row more", x.bytes())
		x.rows[0] -= 2
		mustNotOpen(t, "a row fewer", x.bytes())
	}
}

// wrongRecords are bytes that are no record which may be for the column of these values, or none that is sound of them.
func wrongRecords(l []api.Value) [][]byte {
	z := zoneOf(l, 0)
	was := recordOf(z)
	out := [][]byte{nil, {0}, {0, 0}, {0, 1, 0}, {0, 2, 0}, {0, 255, 0}, {128, 0, 0, 0}, append(long(uint64(was[0])), was[1:]...), append(slices.Clone(was), 0)}
	with := func(nulls int, least, greatest api.Value, filter int) {
		out = append(out, recordOf(api.Zone{Nulls: nulls, Min: least, Max: greatest, Bloom: bytes.Repeat([]byte{255}, filter)}))
	}
	for _, n := range []int{1, 7, 9, 12, 24, 65535, 65537, 131072} {
		with(z.Nulls, z.Min, z.Max, n)
	}
	for _, n := range []int{1, 16777216, 16777217, 1 << 40, -1, math.MinInt} {
		with(z.Nulls+n, z.Min, z.Max, 0)
	}
	least, greatest := []api.Value{num(math.MinInt64), word("")}, []api.Value{num(math.MaxInt64), word(longest(255))}
	for i := range 2 {
		// Ends that stand the wrong way round, where there are values and where there are none.
		with(z.Nulls, greatest[i], least[i], 0)
		if z.Min.Kind != 0 {
			with(z.Nulls, null, null, 8)
		} else {
			with(z.Nulls, least[i], greatest[i], 8)
		}
	}
	return out
}

// TestP17_1Records: records that may not be for their columns, or are not sound, where the rest is right.
func TestP17_1Records(t *testing.T) {
	for _, p := range smallPairs() {
		x := partsOf(p)
		for g := range x.leaves {
			for c, col := range x.columns {
				for _, b := range wrongRecords(columnOf(p.t, c, p.from(g), p.from(g+1))) {
					y := x.copy()
					y.leaves[g][c].record = b
					if openAsPlain(t, y.bytes()) {
						t.Fatalf("the record %s of column %v: an image", brief(b), col)
					}
				}
			}
		}
	}
}

// from is the number of the row with which a row group begins.
func (p pair) from(g int) int {
	n := 0
	for _, k := range p.l.Groups[:g] {
		n += k
	}
	return n
}

// TestP17_1Spoilt: images in which something was changed, taken out or put in, all lengths and Sums made right.
func TestP17_1Spoilt(t *testing.T) {
	r := byChance(102)
	met := map[bool]int{}
	for _, p := range append(smallPairs(), manyPairs(103)...) {
		x := partsOf(p)
		b := x.bytes()
		if len(b) > 3000 {
			continue
		}
		header, directory, chunks := cut(b)
		for range 60 {
			switch y := x.copy(); r.IntN(4) {
			case 0:
				met[openAsPlain(t, sealed(turned(r, header), directory, chunks))]++
			case 1:
				met[openAsPlain(t, sealed(header, turned(r, directory), chunks))]++
			case 2:
				met[openAsPlain(t, turned(r, b))]++
			default:
				if len(y.rows) == 0 {
					continue
				}
				l := &y.leaves[r.IntN(len(y.rows))][r.IntN(len(y.columns))]
				if r.IntN(2) == 0 {
					l.chunk = turned(r, l.chunk)
				} else {
					l.record = turned(r, l.record)
				}
				met[openAsPlain(t, y.bytes())]++
			}
		}
	}
	if met[true] < 300 || met[false] < 3000 {
		t.Errorf("images and others: %v", met)
	}
}

// TestP17_1Anything: bytes by chance, alone and behind the beginning of an image.
func TestP17_1Anything(t *testing.T) {
	r := byChance(104)
	for range 20000 {
		b := make([]byte, r.IntN(60))
		for i := range b {
			b[i] = byte(r.Uint32() >> r.IntN(25))
		}
		openAsPlain(t, b)
		openAsPlain(t, append([]byte("COL1"), b...))
		openAsPlain(t, sealed(headerOf(exampleTable().Columns), b[:len(b)/2], b[len(b)/2:]))
		openAsPlain(t, sealed(b, []byte{0}, nil))
	}
}

// TestP17_2Again: the same bytes are the same image each time, whatever was opened in between.
func TestP17_2Again(t *testing.T) {
	for _, p := range smallPairs() {
		b := imageOf(p)
		want, _ := plainImage(b)
		m, n := mustOpen(t, b), mustOpen(t, b)
		mustNotOpen(t, "in between", b[1:])
		mustTell(t, m, want)
		mustTell(t, n, want)
	}
}

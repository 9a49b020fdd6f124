package zone_test

import (
	"bytes"
	"fmt"
	"math"
	"math/rand/v2"
	"slices"
	"strings"

	"colonnade/api"
	"colonnade/bloom"
)

// The columns of these tests: Ints and Texts, without nulls and with them. No record hangs on a name, so these have some that no column may have.
var (
	intCol   = api.Column{Name: "a", Type: api.Int}
	intNull  = api.Column{Name: "", Type: api.Int, Null: true}
	textCol  = api.Column{Name: "9 é", Type: api.Text}
	textNull = api.Column{Name: strings.Repeat("t", 65), Type: api.Text, Null: true}
)

func goodColumns() []api.Column { return []api.Column{intCol, intNull, textCol, textNull} }

// badColumns are those whose Type is neither Int nor Text.
func badColumns() []api.Column {
	var out []api.Column
	for _, kind := range []int{0, 3, 4, -1, -2, 255, 256, 257, 258, 1<<32 + 1, 1<<32 + 2, math.MinInt, math.MinInt + 1, math.MaxInt} {
		out = append(out, api.Column{Name: "a", Type: kind}, api.Column{Name: "a", Type: kind, Null: true})
	}
	return out
}

var null = api.Value{}

func num(i int64) api.Value           { return api.Value{Kind: api.Int, Int: i} }
func word(s string) api.Value         { return api.Value{Kind: api.Text, Text: s} }
func list(l ...api.Value) []api.Value { return l }

func nums(l ...int64) []api.Value {
	var out []api.Value
	for _, i := range l {
		out = append(out, num(i))
	}
	return out
}

func words(l ...string) []api.Value {
	var out []api.Value
	for _, s := range l {
		out = append(out, word(s))
	}
	return out
}

// sizes are all that a filter may have, written out.
func sizes() []int {
	return []int{8, 16, 32, 64, 128, 256, 512, 1024, 2048, 4096, 8192, 16384, 32768, 65536}
}

// wrongSizes are what no filter has, 0 apart.
func wrongSizes() []int {
	return []int{-1, -8, -64, -65536, math.MinInt, math.MaxInt, 1, 2, 4, 7, 9, 12, 24, 65, 65535, 65537, 98304, 131072, 1<<32 + 8}
}

// longest is a text of as many bytes as it may have, all of them c.
func longest(c byte) string { return strings.Repeat(string([]byte{c}), 65535) }

// edgeValues are values of a column of that type, rising, those at the ends of what may be among them.
func edgeValues(kind int) []api.Value {
	if kind == api.Int {
		return nums(math.MinInt64, math.MinInt64+1, -1<<62-1, -1<<53-1, -65, -64, -2, -1, 0, 1, 2, 5, 63, 64, 127, 128, 1<<53, 1<<53+1, 1<<62, math.MaxInt64-1, math.MaxInt64)
	}
	return words("", "\x00", "\x00\x00", "\x00\x01", "A", longest('Z'), "a", "a\x00", "aa", "ab", "b", "ba", longest('z'), "é", "\xff", "\xff\x00", "\xff\xff", longest(0xff))
}

// wrongValues are of no good column: Reals, Kinds that are none, fields that do not count, texts of a byte too many.
func wrongValues() []api.Value {
	minus := math.Copysign(0, -1)
	out := list(api.Value{Kind: 3}, api.Value{Kind: 3, Real: 1.5}, api.Value{Kind: 3, Real: minus}, api.Value{Kind: 3, Real: math.NaN()}, api.Value{Kind: 3, Real: math.Inf(1)})
	for _, kind := range []int{-1, 4, 257, 258, 1<<32 + 1, math.MinInt, math.MaxInt} {
		out = append(out, api.Value{Kind: kind}, api.Value{Kind: kind, Int: 5}, api.Value{Kind: kind, Text: "a"})
	}
	for _, f := range []float64{1, -1, minus, math.NaN(), math.Inf(-1), math.SmallestNonzeroFloat64} {
		out = append(out, api.Value{Real: f}, api.Value{Kind: 1, Int: 5, Real: f}, api.Value{Kind: 1, Real: f}, api.Value{Kind: 2, Text: "a", Real: f}, api.Value{Kind: 2, Real: f})
	}
	out = append(out, api.Value{Int: 1}, api.Value{Int: -1}, api.Value{Text: "a"}, api.Value{Kind: 1, Text: "a"}, api.Value{Kind: 1, Int: 5, Text: "\x00"}, api.Value{Kind: 2, Int: 1}, api.Value{Kind: 2, Int: -1, Text: "a"})
	return append(out, word(longest('a')+"a"), word(strings.Repeat("\x00", 1<<17)))
}

// isNone is whether a value is the zero value to the last bit.
func isNone(v api.Value) bool {
	return v.Kind == 0 && v.Int == 0 && v.Text == "" && math.Float64bits(v.Real) == 0
}

// isOf says whether a value is of a column, field by field.
func isOf(col api.Column, v api.Value) bool {
	if math.Float64bits(v.Real) != 0 || len(v.Text) > 65535 {
		return false
	}
	switch v.Kind {
	case 0:
		return col.Null && v.Int == 0 && v.Text == ""
	case 1:
		return col.Type == 1 && v.Text == ""
	case 2:
		return col.Type == 2 && v.Int == 0
	}
	return false
}

// ahead is whether v stands ahead of w, both of one column and not Null.
func ahead(v, w api.Value) bool {
	if v.Kind == 1 {
		return v.Int < w.Int
	}
	return strings.Compare(v.Text, w.Text) < 0
}

// denseOf are the values that are not Null.
func denseOf(l []api.Value) []api.Value {
	var out []api.Value
	for _, v := range l {
		if v.Kind != 0 {
			out = append(out, v)
		}
	}
	return out
}

// plainOf is P14.1, step by step.
func plainOf(col api.Column, l []api.Value, size int) (api.Zone, api.Errno) {
	if col.Type != 1 && col.Type != 2 {
		return api.Zone{}, 150
	}
	if len(l) > 16777216 {
		return api.Zone{}, 3
	}
	for _, v := range l {
		if !isOf(col, v) {
			return api.Zone{}, 50
		}
	}
	var z api.Zone
	if size != 0 {
		if !slices.Contains(sizes(), size) {
			return api.Zone{}, 130
		}
		z.Bloom, _ = bloom.Build(size, denseOf(l))
	}
	z.Nulls = len(l)
	for i, v := range denseOf(l) {
		z.Nulls--
		if i == 0 || ahead(v, z.Min) {
			z.Min = v
		}
		if i == 0 || ahead(z.Max, v) {
			z.Max = v
		}
	}
	return z, 0
}

// plainMayBe is the chapter's word, point by point.
func plainMayBe(col api.Column, z api.Zone) bool {
	if col.Type != 1 && col.Type != 2 {
		return false
	}
	if z.Nulls < 0 || z.Nulls > 16777216 || !col.Null && z.Nulls != 0 {
		return false
	}
	if !isNone(z.Min) || !isNone(z.Max) {
		if z.Min.Kind == 0 || z.Max.Kind == 0 || !isOf(col, z.Min) || !isOf(col, z.Max) || ahead(z.Max, z.Min) {
			return false
		}
	}
	return len(z.Bloom) == 0 || slices.Contains(sizes(), len(z.Bloom))
}

// plainMay is P14.2.
func plainMay(col api.Column, rows int, z api.Zone) bool {
	if rows < 0 || rows > 16777216 || !plainMayBe(col, z) || z.Nulls > rows {
		return false
	}
	if z.Nulls == rows {
		return isNone(z.Min)
	}
	return !isNone(z.Min)
}

// plainSound is the chapter's word, value by value.
func plainSound(col api.Column, l []api.Value, z api.Zone) bool {
	if !plainMayBe(col, z) || len(l) > 16777216 {
		return false
	}
	missing := 0
	for _, v := range l {
		if !isOf(col, v) {
			return false
		}
		if v.Kind == 0 {
			missing++
			continue
		}
		if isNone(z.Min) || ahead(v, z.Min) || ahead(z.Max, v) || len(z.Bloom) > 0 && !bloom.Has(z.Bloom, v) {
			return false
		}
	}
	return missing == z.Nulls && (missing < len(l) || isNone(z.Min))
}

// short is a number in groups of seven bits.
func short(v uint64) []byte {
	var b []byte
	for v >= 128 {
		b = append(b, byte(v%128)+128)
		v /= 128
	}
	return append(b, byte(v))
}

func block(p string) []byte { return append(short(uint64(len(p))), p...) }

// plainValue is the bytes of an Int or a Text.
func plainValue(v api.Value) []byte {
	if v.Kind == 2 {
		return block(v.Text)
	}
	if v.Int < 0 {
		return short(2*uint64(-(v.Int+1)) + 1)
	}
	return short(2 * uint64(v.Int))
}

// plainBytes are those of a record, whether it may be or not.
func plainBytes(z api.Zone) []byte {
	b := short(uint64(z.Nulls))
	if isNone(z.Min) {
		b = append(b, 0)
	} else {
		b = slices.Concat(b, []byte{1}, plainValue(z.Min), plainValue(z.Max))
	}
	return append(b, block(string(z.Bloom))...)
}

// plainReader takes the parts of a record off, and gives up at the first fault with its place where it was.
type plainReader struct {
	b     []byte
	fault api.Errno
}

// short is a number, and how many bytes it has.
func (r *plainReader) short() (v uint64, n int) {
	for i := 0; ; i++ {
		switch {
		case i >= len(r.b):
			r.fault = 71
			return 0, 0
		case i == 9 && r.b[i] > 1:
			r.fault = 70
			return 0, 0
		}
		v += uint64(r.b[i]%128) << (7 * i)
		if r.b[i] >= 128 {
			continue
		}
		if r.b[i] == 0 && i > 0 {
			r.fault = 70
			return 0, 0
		}
		return v, i + 1
	}
}

func (r *plainReader) number() uint64 {
	if r.fault != 0 {
		return 0
	}
	v, n := r.short()
	r.b = r.b[n:]
	return v
}

func (r *plainReader) octet() byte {
	if r.fault == 0 && len(r.b) == 0 {
		r.fault = 71
	}
	if r.fault != 0 {
		return 0
	}
	c := r.b[0]
	r.b = r.b[1:]
	return c
}

func (r *plainReader) block(most uint64) []byte {
	if r.fault != 0 {
		return nil
	}
	v, n := r.short()
	if r.fault == 0 && v > most {
		r.fault = 70
	}
	if r.fault == 0 && v > uint64(len(r.b)-n) {
		r.fault = 71
	}
	if r.fault != 0 {
		return nil
	}
	p := slices.Clone(r.b[n : n+int(v)])
	r.b = r.b[n+int(v):]
	return p
}

func (r *plainReader) value(kind int) api.Value {
	if kind == 2 {
		return word(string(r.block(65535)))
	}
	v := r.number()
	if v%2 == 1 {
		return num(-int64(v/2) - 1)
	}
	return num(int64(v / 2))
}

// plainTake is P14.5, of a reader without a fault: beside the answer, how many bytes are left, and the reader's fault.
func plainTake(col api.Column, b []byte) (z api.Zone, e api.Errno, left int, fault api.Errno) {
	r := &plainReader{b: b}
	if col.Type != 1 && col.Type != 2 {
		return api.Zone{}, 150, len(b), 0
	}
	n := r.number()
	mark := r.octet()
	if mark > 1 {
		return api.Zone{}, 140, len(r.b), 0
	}
	if mark == 1 {
		z.Min = r.value(col.Type)
		z.Max = r.value(col.Type)
	}
	z.Bloom = r.block(65536)
	if r.fault != 0 {
		return api.Zone{}, r.fault, len(r.b), r.fault
	}
	z.Nulls = int(min(n, 1<<40))
	if !plainMayBe(col, z) {
		return api.Zone{}, 140, len(r.b), 0
	}
	return z, 0, len(r.b), 0
}

// sameValue is whether two values are the same to the last bit.
func sameValue(a, b api.Value) bool {
	return a.Kind == b.Kind && a.Int == b.Int && a.Text == b.Text && math.Float64bits(a.Real) == math.Float64bits(b.Real)
}

func same(a, b api.Zone) bool {
	return a.Nulls == b.Nulls && sameValue(a.Min, b.Min) && sameValue(a.Max, b.Max) && bytes.Equal(a.Bloom, b.Bloom)
}

// byChance is a source of numbers, the same in each run.
func byChance(seed uint64) *rand.Rand { return rand.New(rand.NewPCG(14, seed)) }

func someBytes(r *rand.Rand, n int) []byte {
	b := make([]byte, n)
	for i := range b {
		b[i] = byte(r.Uint32())
	}
	return b
}

// someValue is a value of a column by chance, near to others or far.
func someValue(r *rand.Rand, col api.Column) api.Value {
	switch {
	case col.Null && r.IntN(4) == 0:
		return null
	case r.IntN(12) == 0:
		l := edgeValues(col.Type)
		return l[r.IntN(len(l))]
	case col.Type == api.Int:
		return num(int64(r.Uint64()) >> (30 + r.IntN(34)))
	}
	return word(string(someBytes(r, r.IntN(5))))
}

// someValues are n values of a column by chance.
func someValues(r *rand.Rand, col api.Column, n int) []api.Value {
	l := make([]api.Value, n)
	for i := range l {
		l[i] = someValue(r, col)
	}
	return l
}

// edgeLists are lists of values of a column: none, Nulls alone, one value, the ends of what may be, a Null at every place.
func edgeLists(col api.Column) [][]api.Value {
	l := edgeValues(col.Type)
	last := len(l) - 1
	all := [][]api.Value{nil, {}, l, {l[0], l[last]}, {l[last], l[0]}, {l[3], l[3]}, {l[3], l[2]}, {l[2], l[3]}, {l[5], l[8], l[2]}, {l[5], l[2], l[8]}, {l[8], l[5], l[2]}, {l[2], l[8], l[5], l[8], l[2]}}
	for _, v := range l {
		all = append(all, list(v))
	}
	back := slices.Clone(l)
	slices.Reverse(back)
	all = append(all, back)
	if !col.Null {
		return all
	}
	for _, l := range slices.Clone(all) {
		for i := 0; i <= len(l); i += 1 + i/2 {
			all = append(all, slices.Insert(slices.Clone(l), i, null))
		}
	}
	for _, n := range []int{1, 2, 3, 127, 128, 300} {
		all = append(all, make([]api.Value, n))
	}
	return append(all, list(null, l[1], null), list(null, null, l[4], l[1], null, l[4]))
}

// manyLists are edgeLists and lists by chance.
func manyLists(col api.Column, seed uint64) [][]api.Value {
	r, all := byChance(seed), edgeLists(col)
	for n := range 24 {
		for range 3 {
			all = append(all, someValues(r, col, n))
		}
	}
	return append(all, someValues(r, col, 300))
}

// edgePairs are what Min and Max may be and may not be, for a column of that type.
func edgePairs(kind int) [][2]api.Value {
	l := edgeValues(kind)
	last := len(l) - 1
	out := [][2]api.Value{{}, {l[0], l[0]}, {l[last], l[last]}, {l[0], l[last]}, {l[last], l[0]}, {l[3], l[4]}, {l[4], l[3]}, {l[4], l[4]}, {null, l[3]}, {l[3], null}}
	other := edgeValues(3 - kind)
	out = append(out, [2]api.Value{other[3], other[4]}, [2]api.Value{l[3], other[4]}, [2]api.Value{other[3], l[4]}, [2]api.Value{null, other[4]}, [2]api.Value{other[3], null})
	for _, v := range wrongValues() {
		out = append(out, [2]api.Value{v, v}, [2]api.Value{v, null}, [2]api.Value{null, v}, [2]api.Value{l[3], v}, [2]api.Value{v, l[last]})
	}
	return out
}

func edgeNulls() []int {
	return []int{math.MinInt, -16777216, -1, 0, 1, 2, 127, 128, 16777215, 16777216, 16777217, 1 << 32, 1<<32 + 1, math.MaxInt}
}

// edgeBlooms are filters and what is none.
func edgeBlooms() [][]byte {
	out := [][]byte{nil, {}, bytes.Repeat([]byte{255}, 8), someBytes(byChance(99), 64)}
	for _, n := range []int{1, 4, 7, 8, 9, 12, 16, 24, 65535, 65536, 65537, 131072} {
		out = append(out, make([]byte, n))
	}
	return out
}

// edgeRecords are records for columns of that type: the edges of each part beside others that may be, and beside such that may not.
func edgeRecords(kind int) []api.Zone {
	var out []api.Zone
	for _, p := range edgePairs(kind) {
		for _, n := range []int{0, 1, 5, -1} {
			out = append(out, api.Zone{Nulls: n, Min: p[0], Max: p[1]}, api.Zone{Nulls: n, Min: p[0], Max: p[1], Bloom: make([]byte, 16)})
		}
	}
	for _, n := range edgeNulls() {
		for _, b := range edgeBlooms() {
			for _, p := range edgePairs(kind)[:7] {
				out = append(out, api.Zone{Nulls: n, Min: p[0], Max: p[1], Bloom: b})
			}
		}
	}
	return out
}

// goodRecords are those of edgeRecords that may be for a column.
func goodRecords(col api.Column) []api.Zone {
	return slices.DeleteFunc(edgeRecords(col.Type), func(z api.Zone) bool { return !plainMayBe(col, z) })
}

// brief is a thing as text, bytes that are no letters told as question marks, cut where it is long.
func brief(v any) string {
	s := fmt.Sprintf("%v", v)
	if len(s) > 200 {
		s = s[:200] + ".."
	}
	return strings.ToValidUTF8(s, "?")
}

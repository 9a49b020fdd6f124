package chunk_test

import (
	"fmt"
	"math"
	"math/big"
	"math/rand/v2"
	"slices"
	"strings"

	"colonnade/api"
	"colonnade/chunk"
	"colonnade/runs"
)

// The columns of these tests: Ints and Texts, without nulls and with them.
var (
	intCol   = api.Column{Name: "a", Type: api.Int}
	intNull  = api.Column{Name: "b", Type: api.Int, Null: true}
	textCol  = api.Column{Name: "s", Type: api.Text}
	textNull = api.Column{Name: "t", Type: api.Text, Null: true}
)

func goodColumns() []api.Column { return []api.Column{intCol, intNull, textCol, textNull} }

// one is the Int i, word the Text s.
func one(i int64) api.Value   { return api.Value{Kind: api.Int, Int: i} }
func word(s string) api.Value { return api.Value{Kind: api.Text, Text: s} }

func numbers(l ...int64) []api.Value {
	var out []api.Value
	for _, i := range l {
		out = append(out, one(i))
	}
	return out
}

func words(l ...string) []api.Value {
	var out []api.Value
	for _, s := range l {
		out = append(out, word(s))
	}
	return out
}

// nulls are so many Nulls.
func nulls(n int) []api.Value { return make([]api.Value, n) }

// isOf says whether a value is of a column, field by field.
func isOf(col api.Column, v api.Value) bool {
	if v.Real != 0 || math.Signbit(v.Real) || len(v.Text) > 65535 {
		return false
	}
	switch v.Kind {
	case 0:
		return col.Null && v.Int == 0 && v.Text == ""
	case 1:
		return col.Type == 1 && v.Text == ""
	case 2:
		return col.Type == 2 && v.Int == 0
	}
	return false
}

// isCodec says whether a codec is one of a good column.
func isCodec(col api.Column, c api.Codec) bool {
	if c.Kind == 4 || c.Kind == 5 {
		return col.Type == 1 && 0 <= c.Width && c.Width <= 64
	}
	return 1 <= c.Kind && c.Kind <= 3 && c.Width == 0
}

// short is a number in groups of seven bits.
func short(v uint64) []byte {
	var b []byte
	for {
		if v < 128 {
			return append(b, byte(v))
		}
		b = append(b, byte(v%128)+128)
		v /= 128
	}
}

// low is so many of a number's bytes, the lowest first.
func low(v uint64, n int) []byte {
	var b []byte
	for range n {
		b = append(b, byte(v%256))
		v /= 256
	}
	return b
}

// bitsOf are lanes of a width, bit by bit.
func bitsOf(codes []uint64, width int) []byte {
	b := make([]byte, (len(codes)*width+7)/8)
	for i, code := range codes {
		for j := range width {
			at := i*width + j
			b[at/8] += byte(code>>j&1) << (at % 8)
		}
	}
	return b
}

// laneOf is the number in a lane, bit by bit.
func laneOf(b []byte, width, i int) uint64 {
	v := uint64(0)
	for j := range width {
		at := i*width + j
		v += uint64(b[at/8]>>(at%8)&1) << j
	}
	return v
}

// denseOf are the values that are not Null.
func denseOf(l []api.Value) []api.Value {
	var out []api.Value
	for _, v := range l {
		if v.Kind != 0 {
			out = append(out, v)
		}
	}
	return out
}

// nullBits has a 1 for each Null.
func nullBits(l []api.Value) []uint64 {
	out := make([]uint64, len(l))
	for i, v := range l {
		if v.Kind == 0 {
			out[i] = 1
		}
	}
	return out
}

// plainBytes is values end to end.
func plainBytes(isText bool, l []api.Value) ([]byte, api.Errno) {
	var b, heap []byte
	if !isText {
		for _, v := range l {
			b = append(b, low(uint64(v.Int), 8)...)
		}
		return b, api.OK
	}
	total := 0
	for _, v := range l {
		total += len(v.Text)
	}
	if total > 4294967295 {
		return nil, api.ErrLarge
	}
	b = low(0, 4)
	for _, v := range l {
		heap = append(heap, v.Text...)
		b = append(b, low(uint64(len(heap)), 4)...)
	}
	return append(b, heap...), api.OK
}

// ahead says whether v is below w, of numbers or of texts.
func ahead(v, w api.Value) int {
	if v.Int != w.Int {
		return map[bool]int{true: -1, false: 1}[v.Int < w.Int]
	}
	return strings.Compare(v.Text, w.Text)
}

// keysOf are the values once each, rising, and the width of their codes.
func keysOf(l []api.Value) ([]api.Value, int) {
	keys := slices.Compact(slices.SortedFunc(slices.Values(l), ahead))
	width := 0
	for 1<<width < len(keys) {
		width++
	}
	return keys, width
}

// codesOf are the numbers of values among their keys.
func codesOf(l, keys []api.Value) []uint64 {
	number := map[api.Value]uint64{}
	for i, k := range keys {
		number[k] = uint64(i)
	}
	out := make([]uint64, len(l))
	for i, v := range l {
		out[i] = number[v]
	}
	return out
}

func dictBytes(isText bool, l []api.Value) ([]byte, api.Errno) {
	keys, width := keysOf(l)
	if len(keys) > 65536 {
		return nil, api.ErrUnfit
	}
	b, e := plainBytes(isText, keys)
	return slices.Concat(short(uint64(len(keys))), b, bitsOf(codesOf(l, keys), width)), e
}

// run is a value and how often it stands.
type run struct {
	v api.Value
	n int
}

func runsOf(l []api.Value) []run {
	var out []run
	for _, v := range l {
		if len(out) > 0 && out[len(out)-1].v == v {
			out[len(out)-1].n++
		} else {
			out = append(out, run{v, 1})
		}
	}
	return out
}

func runsBytes(isText bool, l []api.Value) []byte {
	all := runsOf(l)
	b := short(uint64(len(all)))
	for _, r := range all {
		b = append(b, short(uint64(r.n))...)
		switch {
		case isText:
			b = append(append(b, short(uint64(len(r.v.Text)))...), r.v.Text...)
		case r.v.Int >= 0:
			b = append(b, short(2*uint64(r.v.Int))...)
		default:
			b = append(b, short(2*uint64(-(r.v.Int+1))+1)...)
		}
	}
	return b
}

// leastOf is the least of numbers, 0 of none.
func leastOf(l []api.Value) int64 {
	if len(l) == 0 {
		return 0
	}
	return slices.MinFunc(l, ahead).Int
}

// over are the codes of numbers over a base, and whether all fit a width.
func over(base int64, l []api.Value, width int) ([]uint64, bool) {
	most := new(big.Int).Lsh(big.NewInt(1), uint(width))
	var out []uint64
	for _, v := range l {
		code := new(big.Int).Sub(big.NewInt(v.Int), big.NewInt(base))
		if code.Sign() < 0 || code.Cmp(most) >= 0 {
			return nil, false
		}
		out = append(out, code.Uint64())
	}
	return out, true
}

// frameBytes is lanes over a base, the base ahead of them.
func frameBytes(base int64, head []byte, l []api.Value, width int) ([]byte, api.Errno) {
	codes, is := over(base, l, width)
	if !is {
		return nil, api.ErrUnfit
	}
	return append(head, bitsOf(codes, width)...), api.OK
}

// codecBytes is the codec's bytes of dense values.
func codecBytes(isText bool, l []api.Value, c api.Codec) ([]byte, api.Errno) {
	switch c.Kind {
	case 1:
		return plainBytes(isText, l)
	case 2:
		return dictBytes(isText, l)
	case 3:
		return runsBytes(isText, l), api.OK
	case 4:
		return frameBytes(leastOf(l), low(uint64(leastOf(l)), 8), l, c.Width)
	}
	return frameBytes(0, nil, l, c.Width)
}

// plainForm is P12.1, step by step.
func plainForm(col api.Column, l []api.Value, c api.Codec) ([]byte, api.Errno) {
	if col.Type != 1 && col.Type != 2 {
		return nil, api.ErrSchema
	}
	if len(l) > 16777216 {
		return nil, api.ErrLarge
	}
	for _, v := range l {
		if !isOf(col, v) {
			return nil, api.ErrValue
		}
	}
	if !isCodec(col, c) {
		return nil, api.ErrCodec
	}
	dense := denseOf(l)
	tail, e := codecBytes(col.Type == 2, dense, c)
	if e != api.OK {
		return nil, e
	}
	b := append([]byte{byte(c.Kind), byte(c.Width)}, short(uint64(len(l)-len(dense)))...)
	if len(dense) < len(l) {
		b = append(b, bitsOf(nullBits(l), 1)...)
	}
	return append(b, tail...), api.OK
}

// allCodecs are the codecs of all Kinds and Widths, and some that are none.
func allCodecs() []api.Codec {
	var out []api.Codec
	for kind := range 7 {
		for width := -1; width <= 65; width++ {
			out = append(out, api.Codec{Kind: kind, Width: width})
		}
	}
	return append(out, api.Codec{Kind: -1}, api.Codec{Kind: 257}, api.Codec{Kind: 258}, api.Codec{Kind: math.MinInt}, api.Codec{Kind: math.MaxInt},
		api.Codec{Kind: 4, Width: 256}, api.Codec{Kind: 5, Width: math.MinInt}, api.Codec{Kind: 4, Width: math.MaxInt}, api.Codec{Kind: 1, Width: 256}, api.Codec{Kind: 3, Width: math.MinInt})
}

// plainFit tries all codecs, one behind the other.
func plainFit(col api.Column, l []api.Value) []api.Codec {
	var out []api.Codec
	for kind := 1; kind <= 5; kind++ {
		for width := 0; width <= 64; width++ {
			c := api.Codec{Kind: kind, Width: width}
			if _, e := plainForm(col, l, c); e == api.OK {
				out = append(out, c)
				break
			}
		}
	}
	return out
}

// plainBest holds the forms of all codecs that fit against each other.
func plainBest(col api.Column, l []api.Value) api.Codec {
	best, size := api.Codec{}, math.MaxInt
	for _, c := range plainFit(col, l) {
		if b, _ := plainForm(col, l, c); len(b) < size {
			best, size = c, len(b)
		}
	}
	return best
}

// taken is bytes that are taken off one behind the other without being looked at closely; bad says that there were too few.
type taken struct {
	b   []byte
	bad bool
}

func (t *taken) bytes(n uint64) []byte {
	if t.bad || n > uint64(len(t.b)) {
		t.bad = true
		return nil
	}
	b := t.b[:n]
	t.b = t.b[n:]
	return b
}

func (t *taken) low(n uint64) uint64 {
	v := uint64(0)
	for i, c := range t.bytes(n) {
		v += uint64(c) << (8 * i)
	}
	return v
}

func (t *taken) short() uint64 {
	v := uint64(0)
	for i := 0; i < 10; i++ {
		c := t.low(1)
		v += c % 128 << (7 * i)
		if c < 128 {
			return v
		}
	}
	t.bad = true
	return 0
}

func (t *taken) plain(isText bool, n uint64) []api.Value {
	var out []api.Value
	if !isText {
		for range n {
			if t.bad {
				return nil
			}
			out = append(out, one(int64(t.low(8))))
		}
		return out
	}
	ends := []uint64{t.low(4)}
	for range n {
		if t.bad {
			return nil
		}
		ends = append(ends, t.low(4))
	}
	for i := range n {
		if ends[i] > ends[i+1] {
			t.bad = true
		}
		out = append(out, word(string(t.bytes(ends[i+1]-ends[i]))))
	}
	return out
}

func (t *taken) lanes(width int, n uint64) []uint64 {
	b := t.bytes((n*uint64(width) + 7) / 8)
	var out []uint64
	for i := range n {
		if t.bad {
			return nil
		}
		out = append(out, laneOf(b, width, int(i)))
	}
	return out
}

func (t *taken) dict(isText bool, n uint64) []api.Value {
	count := t.short()
	keys := t.plain(isText, count)
	width := 0
	for !t.bad && 1<<width < count {
		width++
	}
	var out []api.Value
	for _, code := range t.lanes(width, n) {
		if t.bad || code >= uint64(len(keys)) {
			t.bad = true
			return nil
		}
		out = append(out, keys[code])
	}
	return out
}

func (t *taken) runs(isText bool, n uint64) []api.Value {
	var out []api.Value
	for range t.short() {
		often, v := t.short(), api.Value{}
		if isText {
			v = word(string(t.bytes(t.short())))
		} else if folded := t.short(); folded%2 == 0 {
			v = one(int64(folded / 2))
		} else {
			v = one(-int64(folded/2) - 1)
		}
		if t.bad || often > n {
			t.bad = true
			return nil
		}
		n -= often
		out = append(out, slices.Repeat([]api.Value{v}, int(often))...)
	}
	return out
}

func (t *taken) dense(isText bool, c api.Codec, n uint64) []api.Value {
	base := int64(0)
	switch c.Kind {
	case 1:
		return t.plain(isText, n)
	case 2:
		return t.dict(isText, n)
	case 3:
		return t.runs(isText, n)
	case 4:
		base = int64(t.low(8))
	}
	var out []api.Value
	for _, code := range t.lanes(c.Width, n) {
		out = append(out, one(base+int64(code)))
	}
	return out
}

// plainRead is the values and the codec that bytes say, if they are their form: what was taken off is put again, and held against the bytes.
func plainRead(col api.Column, rows int, b []byte) ([]api.Value, api.Codec, bool) {
	t := &taken{b: b}
	c := api.Codec{Kind: int(t.low(1)), Width: int(t.low(1))}
	count := t.short()
	if t.bad || count > uint64(rows) || !isCodec(col, c) {
		return nil, api.Codec{}, false
	}
	null := make([]uint64, rows)
	if count > 0 {
		null = t.lanes(1, uint64(rows))
	}
	dense := t.dense(col.Type == 2, c, uint64(rows)-count)
	var l []api.Value
	for _, bit := range null {
		if bit == 1 {
			l = append(l, api.Value{})
		} else if len(dense) > 0 {
			l, dense = append(l, dense[0]), dense[1:]
		}
	}
	again, e := plainForm(col, l, c)
	return l, c, !t.bad && len(l) == rows && e == api.OK && slices.Equal(again, b)
}

// plainBody is P12.6, of values and a codec.
func plainBody(col api.Column, l []api.Value, c api.Codec) chunk.Body {
	l = denseOf(l)
	if col.Type == 1 {
		return intBody(l, c)
	}
	keys, width := keysOf(l)
	switch c.Kind {
	case 1:
		return chunk.TextPlain{Values: textsOf(l)}
	case 2:
		return chunk.TextDict{Keys: textsOf(keys), Codes: bitsOf(codesOf(l, keys), width), Width: width, N: len(l)}
	}
	var out []runs.Run[string]
	for _, r := range runsOf(l) {
		out = append(out, runs.Run[string]{Value: r.v.Text, N: r.n})
	}
	return chunk.TextRuns{Runs: out}
}

func intBody(l []api.Value, c api.Codec) chunk.Body {
	keys, width := keysOf(l)
	switch c.Kind {
	case 1:
		return chunk.IntPlain{Values: intsOf(l)}
	case 2:
		return chunk.IntDict{Keys: intsOf(keys), Codes: bitsOf(codesOf(l, keys), width), Width: width, N: len(l)}
	case 3:
		var out []runs.Run[int64]
		for _, r := range runsOf(l) {
			out = append(out, runs.Run[int64]{Value: r.v.Int, N: r.n})
		}
		return chunk.IntRuns{Runs: out}
	}
	base := leastOf(l)
	if c.Kind == 5 {
		base = 0
	}
	codes, _ := over(base, l, c.Width)
	return chunk.IntFrame{Base: base, Lanes: bitsOf(codes, c.Width), Width: c.Width, N: len(l)}
}

func intsOf(l []api.Value) []int64 {
	var out []int64
	for _, v := range l {
		out = append(out, v.Int)
	}
	return out
}

func textsOf(l []api.Value) []string {
	var out []string
	for _, v := range l {
		out = append(out, v.Text)
	}
	return out
}

// byChance is a source of numbers, the same in each run.
func byChance(seed uint64) *rand.Rand { return rand.New(rand.NewPCG(12, seed)) }

// someValues are n values of a column by chance: near to one another or far, few different ones or many, in runs or not, and with nulls, where the column has them.
func someValues(r *rand.Rand, col api.Column, n int) []api.Value {
	base, near := int64(r.Uint64())>>r.IntN(64), r.IntN(64)
	stays, lacks := r.IntN(10), r.IntN(12)
	l := make([]api.Value, n)
	for i := range l {
		switch {
		case col.Null && r.IntN(10) < lacks:
		case i > 0 && r.IntN(10) < stays && l[i-1].Kind != 0:
			l[i] = l[i-1]
		case col.Type == api.Int:
			l[i] = one(base + int64(r.Uint64())>>near)
		default:
			l[i] = word("pqrstuvw"[:r.IntN(9)] + string(rune(r.IntN(1<<(near%8)))))
		}
	}
	return l
}

// edgeLists are lists of values of a column: none, one, all Null, none Null, one Null at every place, those at the ends of what may be.
func edgeLists(col api.Column) [][]api.Value {
	most := word(string(slices.Repeat([]byte{0xFF}, api.MaxText)))
	all := [][]api.Value{nil, {}}
	if col.Type == api.Int {
		all = append(all, numbers(0), numbers(-1), numbers(math.MinInt64), numbers(math.MaxInt64), numbers(5, 5), numbers(5, 6), numbers(6, 5),
			numbers(math.MinInt64, math.MaxInt64), numbers(math.MaxInt64, math.MinInt64, 0), numbers(1<<62, 1<<62-1), numbers(-1, 0), numbers(0, 0, 0, 0),
			numbers(9, 9, 9, 9, 9, 9, 9, 9, 9, 8), numbers(0, 1, 2, 3, 4, 5, 6, 7, 8), numbers(-3, -2, -1, -3), numbers(255, 256), numbers(1<<32, 1<<32+1))
	} else {
		all = append(all, words(""), words("", ""), words("x"), words("b", "a"), words("a", "a", "a", "a"), words("", "a", "ab", "abc", "", ""), words("\x00", "", "\x00\x00"),
			words("\xff\xfe", "ü", "a b"), []api.Value{most}, []api.Value{most, word("z"), most})
	}
	if !col.Null {
		return all
	}
	for _, l := range slices.Clone(all) {
		for i := 0; i <= len(l); i += 1 + i/3 {
			all = append(all, slices.Insert(slices.Clone(l), i, api.Value{}))
		}
	}
	for _, n := range []int{1, 2, 7, 8, 9, 63, 64, 65, 127, 128, 129, 300} {
		all = append(all, nulls(n))
	}
	return all
}

// manyLists are edgeLists and lists by chance, of lengths around which a byte or a word of nulls begins or ends.
func manyLists(col api.Column, seed uint64) [][]api.Value {
	r, all := byChance(seed), edgeLists(col)
	for _, n := range []int{0, 1, 2, 3, 4, 5, 7, 8, 9, 10, 15, 16, 17, 30, 62, 63, 64, 65, 66, 127, 128, 129, 130, 200} {
		for range 6 {
			all = append(all, someValues(r, col, n))
		}
	}
	return all
}

// brief is a thing as text, cut where it is long.
func brief(v any) string {
	s := fmt.Sprintf("%v", v)
	if len(s) > 300 {
		return s[:300] + ".."
	}
	return s
}

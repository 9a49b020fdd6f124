package agg_test

import (
	"cmp"
	"fmt"
	"math"
	"math/big"
	"math/rand/v2"
	"slices"
	"strings"
	"testing"

	"colonnade/agg"
	"colonnade/api"
	"colonnade/chunk"
	"colonnade/sel"
	"colonnade/wide"
)

const (
	least    = math.MinInt64
	greatest = math.MaxInt64
)

// The columns of these tests: numbers and texts, with nulls and without them.
var (
	numbers     = api.Column{Name: "n", Type: api.Int, Null: true}
	allNumbers  = api.Column{Name: "n", Type: api.Int}
	textsOrNone = api.Column{Name: "t", Type: api.Text, Null: true}
	allTexts    = api.Column{Name: "t", Type: api.Text}
)

var null = api.Value{}

func num(i int64) api.Value    { return api.Value{Kind: api.Int, Int: i} }
func word(s string) api.Value  { return api.Value{Kind: api.Text, Text: s} }
func real(f float64) api.Value { return api.Value{Kind: api.Real, Real: f} }

func nums(l ...int64) []api.Value {
	var out []api.Value
	for _, i := range l {
		out = append(out, num(i))
	}
	return out
}

func words(l ...string) []api.Value {
	var out []api.Value
	for _, s := range l {
		out = append(out, word(s))
	}
	return out
}

// upTo are the numbers from one on, a step each.
func upTo(from, step int64, n int) []api.Value {
	var out []api.Value
	for i := range n {
		out = append(out, num(from+step*int64(i)))
	}
	return out
}

// wideOf is the wide that a number is, which is within its bounds.
func wideOf(b *big.Int) wide.Wide {
	word := new(big.Int).Lsh(big.NewInt(1), 64)
	hi, lo := new(big.Int).DivMod(b, word, new(big.Int))
	return wide.Wide{Hi: hi.Int64(), Lo: lo.Uint64()}
}

// bigOf is the number that a wide is.
func bigOf(w wide.Wide) *big.Int {
	b := new(big.Int).Lsh(big.NewInt(w.Hi), 64)
	return b.Add(b, new(big.Int).SetUint64(w.Lo))
}

// isThere is whether a value may be, and is not Null: read off the page.
func isThere(v api.Value) bool {
	noReal := math.Float64bits(v.Real) == 0
	switch v.Kind {
	case api.Int:
		return noReal && v.Text == ""
	case api.Text:
		return v.Int == 0 && noReal && len(v.Text) <= 65535
	case api.Real:
		return v.Int == 0 && v.Text == "" && !math.IsNaN(v.Real) && !math.IsInf(v.Real, 0) && math.Float64bits(v.Real) != 1<<63
	}
	return false
}

// order is how two values that are there stand: -1, 0 or 1.
func order(a, b api.Value) int {
	switch {
	case a.Kind == api.Text && b.Kind == api.Text:
		return strings.Compare(a.Text, b.Text)
	case a.Kind == api.Text:
		return 1
	case b.Kind == api.Text:
		return -1
	}
	if c := rational(a).Cmp(rational(b)); c != 0 {
		return c
	}
	// An Int is ahead of a Real that is as great.
	return cmp.Compare(a.Kind, b.Kind)
}

func rational(v api.Value) *big.Rat {
	if v.Kind == api.Int {
		return new(big.Rat).SetInt64(v.Int)
	}
	return new(big.Rat).SetFloat64(v.Real)
}

// read is a plain reading of the state of the chosen rows of some values.
func read(l []api.Value, rows []int) agg.State {
	s, sum := agg.State{Rows: len(rows)}, new(big.Int)
	for _, i := range rows {
		v := l[i]
		if v.Kind == api.Null {
			continue
		}
		if s.Count == 0 || order(v, s.Min) < 0 {
			s.Min = v
		}
		if s.Count == 0 || order(v, s.Max) > 0 {
			s.Max = v
		}
		s.Count++
		sum.Add(sum, big.NewInt(v.Int))
	}
	s.Sum = wideOf(sum)
	return s
}

// mustFold holds Fold against the plain reading, of chunks of the same values.
func mustFold(t *testing.T, all []*chunk.Chunk, l []api.Value, s sel.Sel) {
	t.Helper()
	want := read(l, s.List())
	for _, ch := range all {
		if got, e := agg.Fold(ch, s); got != want || e != api.OK {
			t.Fatalf("Fold of %s by %v, rows %s: %s, %d; want %s", brief(l), ch.Codec(), brief(s.List()), brief(got), e, brief(want))
		}
	}
}

// mustRefuse fails, unless Fold answers an error, and nothing beside it.
func mustRefuse(t *testing.T, ch *chunk.Chunk, s sel.Sel, want api.Errno) {
	t.Helper()
	if got, e := agg.Fold(ch, s); got != (agg.State{}) || e != want {
		t.Fatalf("Fold of a chunk of %d values, %v: %s, %d; want error %d alone", ch.Rows(), s, brief(got), e, want)
	}
}

// opened is a chunk of values by a codec, if they fit it.
func opened(t *testing.T, col api.Column, l []api.Value, c api.Codec) (*chunk.Chunk, bool) {
	t.Helper()
	b, e := chunk.Encode(col, l, c)
	if e == api.ErrUnfit {
		return nil, false
	}
	if e != api.OK {
		t.Fatalf("Encode(%v, %s, %v): %d", col, brief(l), c, e)
	}
	ch, e := chunk.Open(col, len(l), b)
	if e != api.OK {
		t.Fatalf("Open(%v, %s, %v): %d", col, brief(l), c, e)
	}
	return ch, true
}

// chunksOf are chunks of the same values: by every codec, of numbers also by those of each width that fits of those that are named.
func chunksOf(t *testing.T, col api.Column, l []api.Value, widths ...int) []*chunk.Chunk {
	t.Helper()
	codecs := chunk.Fit(col, l)
	for _, width := range widths {
		if col.Type == api.Int {
			codecs = append(codecs, api.Codec{Kind: api.Frame, Width: width}, api.Codec{Kind: api.Packed, Width: width})
		}
	}
	var out []*chunk.Chunk
	for _, c := range codecs {
		if ch, is := opened(t, col, l, c); is {
			out = append(out, ch)
		}
	}
	return out
}

// someWidths are few of the widths, everyWidth all of them.
func someWidths() []int { return []int{1, 3, 7, 8, 31, 33, 63, 64} }

func everyWidth() []int {
	var out []int
	for width := range 65 {
		out = append(out, width)
	}
	return out
}

// numberLists are numbers in the order of rising, falling and alike, from none on, to both ends of int64.
func numberLists() [][]api.Value {
	return [][]api.Value{
		nil, nums(0), nums(5), nums(-1), nums(least), nums(greatest),
		upTo(100, 1, 8), upTo(107, -1, 8), upTo(-4, 3, 9), upTo(20, -7, 9), upTo(0, 1, 64), upTo(63, -1, 65), upTo(-64, 1, 128),
		slices.Repeat(nums(7), 3), slices.Repeat(nums(-7), 70), slices.Repeat(nums(greatest), 9), slices.Repeat(nums(least), 9), slices.Repeat(nums(greatest), 64), slices.Repeat(nums(least), 128),
		nums(least, greatest), nums(greatest, least), nums(greatest, least, 0, -1, 1), nums(least, least+1), nums(greatest, greatest-1), nums(least+2, least, least+5), slices.Repeat(nums(greatest, least), 5),
		upTo(greatest-6, 1, 7), upTo(greatest-12, 3, 5), upTo(least, 1, 7), upTo(least+12, -3, 5),
		nums(5, 5, 7, 7, 7, 5, 9, 9, -3, -3, -3), slices.Concat(slices.Repeat(nums(1), 63), slices.Repeat(nums(2), 66), nums(1)), slices.Concat(slices.Repeat(nums(4), 64), slices.Repeat(nums(-2), 64)),
		nums(0, 1<<62, 1<<63-1), nums(-1<<62, 1<<62, 0), nums(1<<32, 1<<32-1, 1<<31), nums(255, 256, 0), nums(3, 1, 2), nums(0, 0, 1, 1), nums(6, 10, 2, 8, 4, 2),
	}
}

// textLists are texts in the order of rising, falling and alike, such as begin one another, with the outermost bytes, and with bytes that are no UTF-8.
func textLists() [][]api.Value {
	rising := []string{"", "\x00", "\x00\xff", "a", "a\x00", "aa", "ab", "abc", "b", "z", "\xc3", "é", "€", "\xfe\xff", "\xff", "\xff\x00", "\xff\xff"}
	slices.Sort(rising)
	falling := slices.Clone(rising)
	slices.Reverse(falling)
	out := [][]api.Value{nil, words(""), words("a"), words("\xff"), words("b", "a"), words("a", "b"), words("a", ""), words("b", "b", "", "ab"), words("ab", "b", "ab", "abc", "b", "b"), words(strings.Repeat("x", api.MaxText), strings.Repeat("x", api.MaxText-1)+"w", "x")}
	for _, l := range [][]string{rising, falling, slices.Concat(falling, rising), rising[1:], falling[3:9]} {
		out = append(out, words(l...))
	}
	for _, n := range []int{3, 63, 64, 65, 129} {
		out = append(out, slices.Repeat(words("ab"), n), slices.Concat(words("b"), slices.Repeat(words(""), n), slices.Repeat(words("c", "a"), 3)))
	}
	return out
}

// withNulls are lists with nulls among these values: at each end, between all of them, at some places, and nothing but nulls.
func withNulls(all [][]api.Value) [][]api.Value {
	var out [][]api.Value
	for _, l := range all {
		var often []api.Value
		for i, v := range l {
			if often = append(often, v); i%3 != 1 {
				often = append(often, null)
			}
		}
		out = append(out, slices.Concat([]api.Value{null}, l), slices.Concat(l, []api.Value{null}), slices.Concat([]api.Value{null, null}, often))
		if len(l) > 0 {
			out = append(out, slices.Concat(make([]api.Value, 64), l[:1], make([]api.Value, 65), l))
		}
	}
	for _, n := range []int{1, 2, 63, 64, 65, 130} {
		out = append(out, make([]api.Value, n))
	}
	return out
}

// sample is a list of values and the columns that it may stand in.
type sample struct {
	col  api.Column
	list []api.Value
}

// samples are all lists, each in every column that it may stand in.
func samples() []sample {
	var out []sample
	for _, l := range numberLists() {
		out = append(out, sample{allNumbers, l}, sample{numbers, l})
	}
	for _, l := range withNulls(numberLists()) {
		out = append(out, sample{numbers, l})
	}
	for _, l := range textLists() {
		out = append(out, sample{allTexts, l}, sample{textsOrNone, l})
	}
	for _, l := range withNulls(textLists()) {
		out = append(out, sample{textsOrNone, l})
	}
	return out
}

// picks are ways to choose among n rows.
func picks(n int) []func(i int) bool {
	out := []func(i int) bool{
		func(int) bool { return false },
		func(int) bool { return true },
		func(i int) bool { return i%2 == 0 },
		func(i int) bool { return i%2 == 1 },
		func(i int) bool { return i%3 == 1 },
		func(i int) bool { return i%3 != 1 },
		func(i int) bool { return i < n/2 },
		func(i int) bool { return i >= n/2 },
		func(i int) bool { return i >= n/3 && i < n-n/3 },
	}
	for _, k := range []int{0, 1, n / 2, 63, 64, n - 2, n - 1} {
		out = append(out, func(i int) bool { return i == k }, func(i int) bool { return i != k })
	}
	return out
}

// selected is the selection of n rows that pick wants, in the form that layer 4 gives it, and, if there are rows, as a Dense however few they are.
func selected(t *testing.T, n int, pick func(i int) bool) []sel.Sel {
	t.Helper()
	var rows []int
	for i := range n {
		if pick(i) {
			rows = append(rows, i)
		}
	}
	s, e := sel.At(n, rows)
	if e != api.OK {
		t.Fatalf("At(%d, %s): %d", n, brief(rows), e)
	}
	if _, is := s.(sel.Sparse); !is || n == 0 {
		return []sel.Sel{s}
	}
	d := sel.Whole(n).(sel.Dense)
	for i := range n {
		d.Put(i, pick(i))
	}
	return []sel.Sel{s, d}
}

// selections are those of all picks of n rows.
func selections(t *testing.T, n int) []sel.Sel {
	t.Helper()
	var out []sel.Sel
	for _, pick := range picks(n) {
		out = append(out, selected(t, n, pick)...)
	}
	return out
}

// byChance is a source of numbers, the same in each run.
func byChance(seed uint64) *rand.Rand { return rand.New(rand.NewPCG(22, seed)) }

func oneOf[T any](r *rand.Rand, l []T) T { return l[r.IntN(len(l))] }

// someSelection chooses rows by chance, few or many of them.
func someSelection(t *testing.T, r *rand.Rand, n int) sel.Sel {
	t.Helper()
	share := r.IntN(41) - 4
	return oneOf(r, selected(t, n, func(int) bool { return r.IntN(32) < share }))
}

// someValues are n values of a Type by chance: near to one another or far, in runs or not, with nulls or without.
func someValues(r *rand.Rand, kind, n int) []api.Value {
	base, near := int64(r.Uint64())>>r.IntN(64), r.IntN(64)
	stays, lacks := r.IntN(10), r.IntN(9)
	l := make([]api.Value, n)
	for i := range l {
		switch {
		case r.IntN(10) < lacks-3:
		case i > 0 && r.IntN(10) < stays:
			l[i] = l[i-1]
		case kind == api.Int:
			l[i] = num(base + int64(r.Uint64())>>near)
		default:
			l[i] = word(someText(r))
		}
	}
	return l
}

// someText is of few bytes, and few of them differ, so that texts are often alike or begin one another.
func someText(r *rand.Rand) string {
	b := make([]byte, r.IntN(5))
	for i := range b {
		b[i] = oneOf(r, []byte{0, 'a', 'a', 'b', 254, 255})
	}
	return string(b)
}

// columnOf is the column of a Type in which nulls may stand.
func columnOf(kind int) api.Column {
	if kind == api.Int {
		return numbers
	}
	return textsOrNone
}

// kinds are those of the items that say something of rows.
func kinds() []int {
	return []int{api.ItemRows, api.ItemCount, api.ItemSum, api.ItemMin, api.ItemMax, api.ItemMean}
}

// brief is a thing as text, cut where it is long.
func brief(v any) string {
	s := fmt.Sprintf("%v", v)
	if len(s) > 300 {
		return s[:300] + ".."
	}
	return s
}

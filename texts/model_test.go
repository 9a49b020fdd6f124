package texts_test

import (
	"fmt"
	"math/rand/v2"
	"slices"
	"strings"
	"testing"

	"colonnade/api"
	"colonnade/bits"
	"colonnade/chunk"
	"colonnade/texts"
)

// The columns of these tests: texts with nulls and without them, and numbers.
var (
	withNulls = api.Column{Name: "t", Type: api.Text, Null: true}
	noNulls   = api.Column{Name: "t", Type: api.Text}
	ofNumbers = api.Column{Name: "t", Type: api.Int, Null: true}
)

var null = api.Value{}

func num(i int64) api.Value   { return api.Value{Kind: api.Int, Int: i} }
func word(s string) api.Value { return api.Value{Kind: api.Text, Text: s} }

func words(l ...string) []api.Value {
	var out []api.Value
	for _, s := range l {
		out = append(out, word(s))
	}
	return out
}

func compared(op int, c string) api.Pred {
	return api.Pred{Kind: api.PredCompare, Column: "t", Op: op, Value: word(c)}
}

func in(l ...string) api.Pred {
	return api.Pred{Kind: api.PredIn, Column: "t", List: words(l...)}
}

func between(lo, hi string) api.Pred {
	return api.Pred{Kind: api.PredBetween, Column: "t", List: words(lo, hi)}
}

func begins(s string) api.Pred {
	return api.Pred{Kind: api.PredBegins, Column: "t", Value: word(s)}
}

func isNull() api.Pred { return api.Pred{Kind: api.PredNull, Column: "t"} }

func ops() []int { return []int{api.Eq, api.Ne, api.Lt, api.Le, api.Gt, api.Ge} }

// order is how two texts stand, byte by byte: -1, 0 or 1.
func order(a, b string) int {
	for i := 0; i < len(a) && i < len(b); i++ {
		if a[i] != b[i] {
			if a[i] < b[i] {
				return -1
			}
			return 1
		}
	}
	switch {
	case len(a) < len(b):
		return -1
	case len(a) > len(b):
		return 1
	}
	return 0
}

// startsWith is whether a text has another one's bytes first.
func startsWith(s, begin string) bool {
	return len(s) >= len(begin) && order(s[:len(begin)], begin) == 0
}

// says is a plain reading of what an atom of texts says of one of them.
func says(p api.Pred, s string) bool {
	switch p.Kind {
	case api.PredCompare:
		o := order(s, p.Value.Text)
		return [][]bool{{false, true, false}, {true, false, true}, {true, false, false}, {true, true, false}, {false, false, true}, {false, true, true}}[p.Op-1][o+1]
	case api.PredBetween:
		return order(p.List[0].Text, s) <= 0 && order(s, p.List[1].Text) <= 0
	case api.PredBegins:
		return startsWith(s, p.Value.Text)
	case api.PredIn:
		for _, w := range p.List {
			if order(w.Text, s) == 0 {
				return true
			}
		}
	}
	return false
}

// read is a plain reading of what Test answers of values, as the words of both sets.
func read(p api.Pred, l []api.Value) (yes, maybe []uint64) {
	yes, maybe = make([]uint64, (len(l)+63)/64), make([]uint64, (len(l)+63)/64)
	for i, v := range l {
		bit := uint64(1) << (i % 64)
		switch {
		case v.Kind == api.Null && p.Kind == api.PredNull, v.Kind == api.Text && says(p, v.Text):
			yes[i/64] |= bit
		case v.Kind == api.Null:
			maybe[i/64] |= bit
		}
	}
	return yes, maybe
}

// mustBe fails, unless a set has a length and words.
func mustBe(t *testing.T, what string, s *bits.Set, n int, words []uint64) {
	t.Helper()
	if s == nil || s.Len() != n || !slices.Equal(s.Words(), words) {
		t.Fatalf("%s: a set of length %d, %x; want length %d, %x", what, s.Len(), s.Words(), n, words)
	}
}

// mustSay holds Test against the plain reading, of chunks of the same values.
func mustSay(t *testing.T, all []*chunk.Chunk, l []api.Value, p api.Pred) {
	t.Helper()
	wantYes, wantMaybe := read(p, l)
	for _, ch := range all {
		yes, maybe, e := texts.Test(ch, p)
		if e != api.OK {
			t.Fatalf("Test of %s by %v, %s: error %d", brief(l), ch.Codec(), brief(p), e)
		}
		if yes == nil || maybe == nil || yes.Len() != len(l) || maybe.Len() != len(l) || !slices.Equal(yes.Words(), wantYes) || !slices.Equal(maybe.Words(), wantMaybe) {
			t.Fatalf("Test of %s by %v, %s: %x of %d, maybe %x of %d; want %x, maybe %x", brief(l), ch.Codec(), brief(p), yes.Words(), yes.Len(), maybe.Words(), maybe.Len(), wantYes, wantMaybe)
		}
	}
}

// mustRefuse fails, unless Test answers an error, and nothing beside it.
func mustRefuse(t *testing.T, ch *chunk.Chunk, p api.Pred, want api.Errno) {
	t.Helper()
	if yes, maybe, e := texts.Test(ch, p); e != want || yes != nil || maybe != nil {
		t.Fatalf("Test of a chunk of %v, %s: %v, %v, %d; want error %d alone", ch.Column(), brief(p), yes, maybe, e, want)
	}
}

// opened is a chunk of values by a kind of codec.
func opened(t *testing.T, col api.Column, l []api.Value, kind int) *chunk.Chunk {
	t.Helper()
	b, e := chunk.Encode(col, l, api.Codec{Kind: kind})
	if e != api.OK {
		t.Fatalf("Encode(%v, %s) by %d: %d", col, brief(l), kind, e)
	}
	ch, e := chunk.Open(col, len(l), b)
	if e != api.OK {
		t.Fatalf("Open(%v, %s) by %d: %d", col, brief(l), kind, e)
	}
	return ch
}

// chunksOf are chunks of the same texts, by every codec.
func chunksOf(t *testing.T, col api.Column, l []api.Value) []*chunk.Chunk {
	t.Helper()
	var out []*chunk.Chunk
	for _, kind := range []int{api.Plain, api.Dict, api.Runs} {
		out = append(out, opened(t, col, l, kind))
	}
	return out
}

// numbered are texts by their number, each above the one ahead of it.
func numbered(n int) []string {
	var out []string
	for i := range n {
		out = append(out, fmt.Sprintf("%03d", i))
	}
	return out
}

func reversed[T any](l []T) []T {
	out := slices.Clone(l)
	slices.Reverse(out)
	return out
}

// beginOneAnother, outermost, noUTF8 are sorts of texts: such as begin one another, with the bytes 0 and 255, with bytes that are no UTF-8.
func beginOneAnother() []string { return []string{"", "a", "aa", "aaa", "ab", "abc", "abd", "b"} }
func outermost() []string {
	return []string{"", "\x00", "\x00\x00", "\x00\xff", "\x01", "a", "a\x00", "a\x00\xff", "a\xfe", "a\xff", "a\xff\x00", "a\xff\xff", "b", "\xfe\xff", "\xff", "\xff\x00", "\xff\xfe", "\xff\xff", "\xff\xff\xff"}
}
func noUTF8() []string {
	return []string{"\x7f", "\x80", "a\xc0\x80", "z", "\xc3", "é", "\xe2\x82", "€", "\xf0\x28", "𐍈"}
}

// denseLists are texts in the order of rising, falling and alike, from none on.
func denseLists() [][]api.Value {
	out := [][]api.Value{nil, words(""), words("a"), words("\x00"), words("\xff"), words("ab", "b", "ab", "abc"), words("b", "a", "b", "a", "a"), words("", "", "a", "")}
	for _, l := range [][]string{beginOneAnother(), outermost(), slices.Sorted(slices.Values(noUTF8())), numbered(64), numbered(67)} {
		twice := slices.Sorted(slices.Values(slices.Concat(l, l)))
		out = append(out, words(l...), words(reversed(l)...), words(twice...), words(l[1:]...), words(l[:3]...), words(l[2], l[0], l[1], l[1], l[2]))
	}
	for _, s := range []string{"", "ab", "\xff", "\x00a"} {
		out = append(out, slices.Repeat(words(s), 3), slices.Repeat(words(s), 64), slices.Repeat(words(s), 70))
	}
	return append(out, slices.Concat(slices.Repeat(words("a"), 63), slices.Repeat(words("ab"), 66), words("a")))
}

// nullLists have nulls among the texts: at each end, between all of them, at some places, and nothing but nulls.
func nullLists() [][]api.Value {
	var out [][]api.Value
	for _, l := range denseLists() {
		var often []api.Value
		for i, v := range l {
			if often = append(often, v); i%3 != 1 {
				often = append(often, null)
			}
		}
		out = append(out, slices.Concat([]api.Value{null}, l), slices.Concat(l, []api.Value{null}), slices.Concat([]api.Value{null, null}, often))
	}
	for _, n := range []int{1, 2, 63, 64, 65, 130} {
		out = append(out, make([]api.Value, n))
	}
	return append(out, slices.Concat(make([]api.Value, 64), words(""), make([]api.Value, 64), words("a")))
}

func allLists() [][]api.Value { return slices.Concat(denseLists(), nullLists()) }

// byChance is a source of numbers, the same in each run.
func byChance(seed uint64) *rand.Rand { return rand.New(rand.NewPCG(20, seed)) }

func oneOf[T any](r *rand.Rand, l []T) T { return l[r.IntN(len(l))] }

// someText is of few bytes, and few of them differ, so that texts are often alike or begin one another.
func someText(r *rand.Rand) string {
	b := make([]byte, r.IntN(5))
	for i := range b {
		b[i] = oneOf(r, []byte{0, 'a', 'a', 'b', 254, 255})
	}
	return string(b)
}

// someList is n values by chance: in runs or not, with nulls or without.
func someList(r *rand.Rand, n int) []api.Value {
	stays, lacks := r.IntN(10), r.IntN(9)
	l := make([]api.Value, n)
	for i := range l {
		switch {
		case r.IntN(10) < lacks-3:
		case i > 0 && r.IntN(10) < stays:
			l[i] = l[i-1]
		default:
			l[i] = word(someText(r))
		}
	}
	return l
}

// textsIn are the texts among values, rising, each once.
func textsIn(l []api.Value) []string {
	var out []string
	for _, v := range l {
		if v.Kind == api.Text {
			out = append(out, v.Text)
		}
	}
	slices.Sort(out)
	return slices.Compact(out)
}

// around are texts near to one: itself, what it begins with, what begins with it, and its neighbours by the last byte.
func around(s string) []string {
	out := []string{s, s + "\x00", s + "a", s + "\xff", s + "\xff\xff"}
	if n := len(s); n > 0 {
		out = append(out, s[:n-1], s[:n/2], s[:n-1]+string([]byte{s[n-1] - 1}), s[:n-1]+string([]byte{s[n-1] + 1}))
	}
	return out
}

// constantsFor are texts to hold values against: below, among, between and above them, and such as they begin with.
func constantsFor(l []api.Value) []string {
	out := []string{"", "\x00", "a", "m", "\xff", "\xff\xff\xff\xff"}
	there := textsIn(l)
	for i, s := range there {
		if i < 6 || i >= len(there)-3 {
			out = append(out, around(s)...)
		}
	}
	slices.Sort(out)
	return slices.Compact(out)
}

// listsFor are lists for PredIn: none, one, the same twice, two in both orders, all at once, as many as there may be.
func listsFor(c []string) [][]string {
	out := [][]string{nil, c, slices.Concat(c, c)}
	for i, s := range c {
		w := c[(i*7+3)%len(c)]
		out = append(out, []string{s}, []string{s, s}, []string{s, w}, []string{w, s, w}, c[i:])
	}
	many := slices.Clone(c)
	for i := 0; len(many) < api.MaxList; i++ {
		many = append(many, c[i%len(c)]+strings.Repeat("a", i/len(c)))
	}
	return append(out, reversed(many), slices.Repeat(c[:1], api.MaxList))
}

// comparesFor, betweensFor, insFor, beginsFor are atoms for values, of one Kind each.
func comparesFor(l []api.Value) []api.Pred {
	var out []api.Pred
	for _, c := range constantsFor(l) {
		for _, op := range ops() {
			out = append(out, compared(op, c))
		}
	}
	return out
}

func betweensFor(l []api.Value) []api.Pred {
	var out []api.Pred
	c := constantsFor(l)
	for i, lo := range c {
		for k, hi := range c {
			if len(c) < 16 || i == 0 || i-k < 3 && k-i < 3 || (i+k)%7 == 0 {
				out = append(out, between(lo, hi))
			}
		}
	}
	return out
}

func insFor(l []api.Value) []api.Pred {
	var out []api.Pred
	for _, list := range listsFor(constantsFor(l)) {
		out = append(out, in(list...))
	}
	return out
}

func beginsFor(l []api.Value) []api.Pred {
	var out []api.Pred
	for _, c := range constantsFor(l) {
		out = append(out, begins(c))
	}
	return out
}

func atomsFor(l []api.Value) []api.Pred {
	return slices.Concat([]api.Pred{isNull()}, comparesFor(l), betweensFor(l), insFor(l), beginsFor(l))
}

// someAtom is one by chance, its texts near to those of a list.
func someAtom(r *rand.Rand, l []api.Value) api.Pred {
	c := constantsFor(l)
	switch r.IntN(10) {
	case 0:
		return isNull()
	case 1, 2:
		return between(oneOf(r, c), oneOf(r, c))
	case 3, 4:
		list := make([]string, r.IntN(6)*r.IntN(12))
		for i := range list {
			list[i] = oneOf(r, c)
		}
		return in(list...)
	case 5, 6, 7:
		return begins(oneOf(r, c))
	}
	return compared(oneOf(r, ops()), oneOf(r, c))
}

// brief is a thing as text, cut where it is long.
func brief(v any) string {
	s := fmt.Sprintf("%q", v)
	if len(s) > 300 {
		return s[:300] + ".."
	}
	return s
}

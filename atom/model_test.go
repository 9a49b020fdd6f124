package atom_test

import (
	"fmt"
	"math"
	"math/big"
	"math/rand/v2"
	"slices"
	"strings"

	"colonnade/api"
)

var null = api.Value{}

// minusZero is the zero with a sign, which no constant is.
var minusZero = math.Copysign(0, -1)

func num(i int64) api.Value           { return api.Value{Kind: api.Int, Int: i} }
func word(s string) api.Value         { return api.Value{Kind: api.Text, Text: s} }
func float(f float64) api.Value       { return api.Value{Kind: api.Real, Real: f} }
func list(l ...api.Value) []api.Value { return l }

func nums(l ...int64) []api.Value {
	var out []api.Value
	for _, i := range l {
		out = append(out, num(i))
	}
	return out
}

func words(l ...string) []api.Value {
	var out []api.Value
	for _, s := range l {
		out = append(out, word(s))
	}
	return out
}

func floats(l ...float64) []api.Value {
	var out []api.Value
	for _, f := range l {
		out = append(out, float(f))
	}
	return out
}

func compared(name string, op int, v api.Value) api.Pred {
	return api.Pred{Kind: api.PredCompare, Column: name, Op: op, Value: v}
}

func in(name string, l ...api.Value) api.Pred {
	return api.Pred{Kind: api.PredIn, Column: name, List: l}
}

func between(name string, l ...api.Value) api.Pred {
	return api.Pred{Kind: api.PredBetween, Column: name, List: l}
}

func isNull(name string) api.Pred { return api.Pred{Kind: api.PredNull, Column: name} }

func begins(name string, v api.Value) api.Pred {
	return api.Pred{Kind: api.PredBegins, Column: name, Value: v}
}

// longest is a text of as many bytes as it may have, all of them c.
func longest(c byte) string { return strings.Repeat(string([]byte{c}), 65535) }

func intValues() []api.Value {
	return nums(math.MinInt64, math.MinInt64+1, -1<<53-1, -5, -1, 0, 1, 2, 3, 4, 5, 6, 7, 1<<53, 1<<53+1, math.MaxInt64-1, math.MaxInt64)
}

// textValues have texts that begin with others among them, to the longest ones.
func textValues() []api.Value {
	return words("", "\x00", "\x00\x00", "a", "a\x00", "aa", "ab", "b", "q", "qu", "qu\x00", "quo", "qv", "r", "x", "é", "\xc3", "\xff", "\xff\xff", longest('a'), longest('a')[1:], longest('a')[1:]+"b", longest(0xff))
}

// realValues have those among them that are as great as an Int, or beside one.
func realValues() []api.Value {
	return floats(-math.MaxFloat64, -1<<63, -5.5, -5, -math.SmallestNonzeroFloat64, 0, math.SmallestNonzeroFloat64, 0.5, 2, 4.5, 5, 5.5, 1<<53, 1<<53+2, 1<<63, math.MaxFloat64)
}

// goodValues are all that may be, of each Kind.
func goodValues() []api.Value {
	return slices.Concat(list(null), intValues(), realValues(), textValues())
}

// nearlyNull are Null, and yet not the Null that may be.
func nearlyNull() []api.Value {
	return list(api.Value{Int: 1}, api.Value{Int: math.MinInt64}, api.Value{Real: minusZero}, api.Value{Real: 1}, api.Value{Real: math.NaN()}, api.Value{Real: math.Inf(-1)}, api.Value{Text: "a"}, api.Value{Text: "\x00"}, api.Value{Text: longest('a') + "a"})
}

// wrongKinds are those of no value.
func wrongKinds() []int {
	return []int{-1, -2, 4, 5, 256, 257, 258, 1<<32 + 1, 1<<32 + 2, math.MinInt, math.MaxInt}
}

// badValues may not be: fields that do not count, Reals that do not end, texts of a byte too many, Kinds that are none.
func badValues() []api.Value {
	out := nearlyNull()
	for _, f := range []float64{minusZero, 1, -1, math.NaN(), math.Inf(1), math.SmallestNonzeroFloat64} {
		out = append(out, api.Value{Kind: 1, Int: 5, Real: f}, api.Value{Kind: 1, Real: f}, api.Value{Kind: 2, Text: "qu", Real: f}, api.Value{Kind: 2, Real: f})
	}
	out = append(out, api.Value{Kind: 1, Int: 5, Text: "a"}, api.Value{Kind: 1, Text: "\x00"}, api.Value{Kind: 2, Int: 1}, api.Value{Kind: 2, Int: -1, Text: "qu"}, api.Value{Kind: 3, Int: 1}, api.Value{Kind: 3, Real: 5, Text: "a"})
	out = append(out, floats(minusZero, math.NaN(), math.Inf(1), math.Inf(-1))...)
	for _, kind := range wrongKinds() {
		out = append(out, api.Value{Kind: kind}, api.Value{Kind: kind, Int: 5}, api.Value{Kind: kind, Text: "qu"}, api.Value{Kind: kind, Real: 5})
	}
	return append(out, word(longest('a')+"a"), word(strings.Repeat("\x00", 1<<17)))
}

func allValues() []api.Value { return slices.Concat(goodValues(), badValues()) }

// someOfEach are few values of each sort, for lists of several.
func someOfEach() []api.Value {
	return list(null, api.Value{Real: minusZero}, num(math.MinInt64), num(4), num(5), api.Value{Kind: 1, Int: 5, Text: "a"}, float(4.5), float(5), float(math.NaN()), num(1<<53+1), float(1<<53), word(""), word("qu"), word("quo"), word("r"), word(longest('a')), word(longest('a')+"a"), api.Value{Kind: 9})
}

// mayBe is the page's word, field by field.
func mayBe(v api.Value) bool {
	plus := math.Float64bits(v.Real) == 0
	switch v.Kind {
	case 0:
		return v.Int == 0 && plus && v.Text == ""
	case 1:
		return plus && v.Text == ""
	case 2:
		return v.Int == 0 && plus && len(v.Text) <= 65535
	case 3:
		ends := math.Abs(v.Real) <= math.MaxFloat64
		return v.Int == 0 && v.Text == "" && ends && (plus || v.Real != 0)
	}
	return false
}

// exact is the number that an Int or a Real is.
func exact(v api.Value) *big.Rat {
	if v.Kind == api.Int {
		return new(big.Rat).SetInt64(v.Int)
	}
	return new(big.Rat).SetFloat64(v.Real)
}

// side tells two bools apart: -1, if the first alone holds, 1, if the second alone.
func side(first, second bool) int {
	switch {
	case first && !second:
		return -1
	case second && !first:
		return 1
	}
	return 0
}

// order is a plain reading of how two values stand to each other, what may not be first, as layer 5 has it.
func order(a, b api.Value) int {
	if !mayBe(a) || !mayBe(b) {
		return side(!mayBe(a), !mayBe(b))
	}
	if a.Kind == 0 || b.Kind == 0 {
		return side(a.Kind == 0, b.Kind == 0)
	}
	if a.Kind == 2 || b.Kind == 2 {
		if a.Kind != b.Kind {
			return side(b.Kind == 2, a.Kind == 2)
		}
		return strings.Compare(a.Text, b.Text)
	}
	if a.Kind == 1 && b.Kind == 1 {
		return side(a.Int < b.Int, a.Int > b.Int)
	}
	if c := exact(a).Cmp(exact(b)); c != 0 {
		return c
	}
	return side(a.Kind == 1, b.Kind == 1)
}

// beginsSo goes byte by byte.
func beginsSo(s, with string) bool {
	for i := range len(with) {
		if i >= len(s) || s[i] != with[i] {
			return false
		}
	}
	return true
}

// firstOf is the first column of a name.
func firstOf(cols []api.Column, name string) (api.Column, bool) {
	for _, c := range cols {
		if c.Name == name {
			return c, true
		}
	}
	return api.Column{}, false
}

// isNone is whether a value is the Null that may be.
func isNone(v api.Value) bool { return v.Kind == 0 && mayBe(v) }

// strays is whether a field that does not count is not zero, Kind by Kind.
func strays(p api.Pred) bool {
	if len(p.Kids) > 0 {
		return true
	}
	switch p.Kind {
	case 1:
		return len(p.List) > 0
	case 2, 3:
		return p.Op != 0 || !isNone(p.Value)
	case 4:
		return p.Op != 0 || !isNone(p.Value) || len(p.List) > 0
	case 5:
		return p.Op != 0 || len(p.List) > 0
	}
	return false
}

// plainCheck is P18.1, sentence by sentence.
func plainCheck(cols []api.Column, p api.Pred) api.Errno {
	col, is := firstOf(cols, p.Column)
	if p.Kind < 1 || p.Kind > 5 || p.Kind == 1 && (p.Op < 1 || p.Op > 6) || p.Kind == 5 && is && col.Type != 2 {
		return 180
	}
	if strays(p) || p.Kind == 3 && len(p.List) != 2 {
		return 2
	}
	if !is {
		return 151
	}
	if p.Kind == 2 && len(p.List) > 1024 {
		return 3
	}
	its := p.List
	if p.Kind == 1 || p.Kind == 5 {
		its = list(p.Value)
	}
	for _, v := range its {
		if !mayBe(v) || v.Kind == 0 || v.Kind != col.Type {
			return 50
		}
	}
	return 0
}

// plainTest is P18.2.
func plainTest(p api.Pred, v api.Value) api.Truth {
	if p.Kind < 1 || p.Kind > 5 || !mayBe(v) {
		return 0
	}
	if v.Kind == 0 {
		if p.Kind == 4 {
			return 1
		}
		return 2
	}
	says := false
	switch p.Kind {
	case 1:
		c := order(v, p.Value)
		says = p.Op == 1 && c == 0 || p.Op == 2 && c != 0 || p.Op == 3 && c < 0 || p.Op == 4 && c <= 0 || p.Op == 5 && c > 0 || p.Op == 6 && c >= 0
	case 2:
		for _, w := range p.List {
			says = says || order(v, w) == 0
		}
	case 3:
		says = len(p.List) >= 2 && order(v, p.List[0]) >= 0 && order(v, p.List[1]) <= 0
	case 5:
		says = v.Kind == 2 && p.Value.Kind == 2 && beginsSo(v.Text, p.Value.Text)
	}
	if says {
		return 1
	}
	return 0
}

// plainNot is P18.3.
func plainNot(p api.Pred) (api.Pred, bool) {
	if p.Kind != 1 || p.Op < 1 || p.Op > 6 || len(p.List) > 0 || len(p.Kids) > 0 {
		return api.Pred{}, false
	}
	return compared(p.Column, []int{0, 2, 1, 6, 5, 4, 3}[p.Op], p.Value), true
}

// plainBounds is P18.4.
func plainBounds(p api.Pred) (lo, hi api.Value, ok bool) {
	if plainCheck([]api.Column{{Name: p.Column, Type: 1}}, p) != 0 && plainCheck([]api.Column{{Name: p.Column, Type: 2}}, p) != 0 {
		return null, null, false
	}
	switch {
	case p.Kind == 1 && p.Op == 1:
		return p.Value, p.Value, true
	case p.Kind == 1 && (p.Op == 3 || p.Op == 4):
		return null, p.Value, true
	case p.Kind == 1 && (p.Op == 5 || p.Op == 6) || p.Kind == 5:
		return p.Value, null, true
	case p.Kind == 3:
		return p.List[0], p.List[1], true
	case p.Kind == 2 && len(p.List) > 0:
		rising := slices.Clone(p.List)
		slices.SortFunc(rising, order)
		return rising[0], rising[len(rising)-1], true
	}
	return null, null, false
}

// sameValue is whether two values are the same to the last bit.
func sameValue(a, b api.Value) bool {
	return a.Kind == b.Kind && a.Int == b.Int && a.Text == b.Text && math.Float64bits(a.Real) == math.Float64bits(b.Real)
}

// samePred takes nil and empty lists for the same.
func samePred(a, b api.Pred) bool {
	return a.Kind == b.Kind && a.Column == b.Column && a.Op == b.Op && sameValue(a.Value, b.Value) && slices.EqualFunc(a.List, b.List, sameValue) && slices.EqualFunc(a.Kids, b.Kids, samePred)
}

// byChance is a source of numbers, the same in each run.
func byChance(seed uint64) *rand.Rand { return rand.New(rand.NewPCG(18, seed)) }

func oneOf[T any](r *rand.Rand, l []T) T { return l[r.IntN(len(l))] }

// brief is a thing as text, bytes that are no letters told as question marks, cut where it is long.
func brief(v any) string {
	s := fmt.Sprintf("%v", v)
	if len(s) > 200 {
		s = s[:200] + ".."
	}
	return strings.ToValidUTF8(s, "?")
}

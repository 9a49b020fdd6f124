package lang_test

import (
	"math"
	"math/rand/v2"
	"slices"
	"strings"
	"testing"

	"colonnade/api"
	"colonnade/lang"
)

var null = api.Value{}

// minusZero is the zero with a sign, which no constant is.
var minusZero = math.Copysign(0, -1)

func num(i int64) api.Value   { return api.Value{Kind: api.Int, Int: i} }
func word(s string) api.Value { return api.Value{Kind: api.Text, Text: s} }

func list(l ...api.Value) []api.Value { return l }

func compared(name string, op int, v api.Value) api.Pred {
	return api.Pred{Kind: api.PredCompare, Column: name, Op: op, Value: v}
}

func in(name string, l ...api.Value) api.Pred {
	return api.Pred{Kind: api.PredIn, Column: name, List: l}
}

func between(name string, l ...api.Value) api.Pred {
	return api.Pred{Kind: api.PredBetween, Column: name, List: l}
}

func isNull(name string) api.Pred { return api.Pred{Kind: api.PredNull, Column: name} }

func begins(name string, v api.Value) api.Pred {
	return api.Pred{Kind: api.PredBegins, Column: name, Value: v}
}

func and(kids ...api.Pred) api.Pred { return api.Pred{Kind: api.PredAnd, Kids: kids} }
func or(kids ...api.Pred) api.Pred  { return api.Pred{Kind: api.PredOr, Kids: kids} }
func not(kids ...api.Pred) api.Pred { return api.Pred{Kind: api.PredNot, Kids: kids} }

// nots are so many about a predicate.
func nots(n int, p api.Pred) api.Pred {
	for range n {
		p = not(p)
	}
	return p
}

// all is the predicate of every row.
var all = api.Pred{Kind: api.PredAll}

// lessThree is an atom like any other.
func lessThree() api.Pred { return compared("a", api.Lt, num(3)) }

func column(name string) api.Item { return api.Item{Kind: api.ItemColumn, Column: name} }

func sum(name string) api.Item { return api.Item{Kind: api.ItemSum, Column: name} }

var rows = api.Item{Kind: api.ItemRows}

// asking is the query of these items, of all rows.
func asking(items ...api.Item) api.Query { return api.Query{Items: items, Limit: -1} }

// askingWhere is the query of the column a, of some rows.
func askingWhere(p api.Pred) api.Query {
	q := asking(column("a"))
	q.Where = p
	return q
}

// mustParse holds Parse to an answer; beside an error the query is zero.
func mustParse(t *testing.T, text string, want api.Query, at int, e api.Errno) {
	t.Helper()
	q, place, fault := lang.Parse(text)
	if place != at || fault != e || !sameQuery(q, want) {
		t.Fatalf("Parse(%s) = %s, %d, %d, not %s, %d, %d", brief(text), brief(q), place, fault, brief(want), at, e)
	}
}

// mustRefuse holds Parse to a fault.
func mustRefuse(t *testing.T, text string, e api.Errno, at int) {
	t.Helper()
	mustParse(t, text, api.Query{}, at, e)
}

// mustReadAs holds Parse to the plain reading.
func mustReadAs(t *testing.T, text string) api.Errno {
	t.Helper()
	q, at, e := readParse(text)
	mustParse(t, text, q, at, e)
	return e
}

func mustPrint(t *testing.T, q api.Query, want string, e api.Errno) {
	t.Helper()
	s, fault := lang.Print(q)
	if s != want || fault != e {
		t.Fatalf("Print(%s) = %s, %d, not %s, %d", brief(q), brief(s), fault, brief(want), e)
	}
}

// mustBeBoth holds a query to its text, and the text to the query.
func mustBeBoth(t *testing.T, text string, q api.Query) {
	t.Helper()
	mustPrint(t, q, text, api.OK)
	mustParse(t, text, q, 0, api.OK)
}

// goodNames are names of every sort: such as say something else elsewhere, and the longest.
func goodNames() []string {
	longest := "Z" + strings.Repeat("_9z", 21)
	return slices.Concat(wordsOfLanguage, foldNames, []string{"a", "b", "t", "z", "A", "Z", "rows", "x_1", "x_", "a9", "AND", "Select", "ands", "an", "limit1", "in_", "nul", "nulls", "all_", longest, longest[:63]})
}

// badNames are texts that are no names.
func badNames() []string {
	return []string{"", " ", "9", "9a", "_", "_a", "a b", "a ", " a", "a-", "-a", "a\x00", "\x00", "é", "aé", "a\xff", "`a`", "`", "a`", "\"a\"", "a,b", "a, b", "rows()", "sum(a)", "(a)", "a.b", "a\n", "\ta", "a=1", "1", "<", "a" + strings.Repeat("b", 64), strings.Repeat("x", 70000)}
}

func goodValues() []api.Value {
	out := list(num(0), num(1), num(-1), num(7), num(64), num(65), num(math.MaxInt64), num(math.MinInt64), num(1<<53+1))
	for _, s := range []string{"", "a", "x", "\"", "\\", "\\\\", "\"\"", "\\x41", "a\"b\\c", "\x00", "\n", "\t", "\x1f", " ", "~", "\x7f", "\x80", "\xff", "é", "日本", "select", "`", "'", ", (", ")", "and", " or ", strings.Repeat("q", 300)} {
		out = append(out, word(s))
	}
	return out
}

// badValues are such as no number or text says.
func badValues() []api.Value {
	return list(null, api.Value{Kind: 3, Real: 1.5}, api.Value{Kind: 3}, api.Value{Kind: 4}, api.Value{Kind: -1}, api.Value{Kind: 1, Text: "x"}, api.Value{Kind: 1, Int: 3, Real: 1}, api.Value{Kind: 1, Int: 3, Real: minusZero}, api.Value{Kind: 2, Int: 1, Text: "x"}, api.Value{Kind: 2, Text: "x", Real: minusZero}, api.Value{Kind: 2, Text: "x", Real: math.NaN()}, word(strings.Repeat("y", 65536)), api.Value{Kind: 1 << 32, Int: 1}, api.Value{Int: 1}, api.Value{Real: minusZero})
}

func someValue(r *rand.Rand) api.Value {
	switch r.IntN(6) {
	case 0:
		return num(int64(r.Uint64()))
	case 1:
		b := make([]byte, r.IntN(6))
		for i := range b {
			b[i] = byte(r.IntN(256))
		}
		return word(string(b))
	}
	return oneOf(r, goodValues())
}

func someValues(r *rand.Rand, n int) []api.Value {
	var out []api.Value
	for range n {
		out = append(out, someValue(r))
	}
	return out
}

func someAtom(r *rand.Rand) api.Pred {
	name := oneOf(r, goodNames())
	switch r.IntN(6) {
	case 0:
		return in(name, someValues(r, r.IntN(4))...)
	case 1:
		return between(name, someValues(r, 2)...)
	case 2:
		return isNull(name)
	case 3:
		return begins(name, word(someText(r)))
	}
	return compared(name, 1+r.IntN(6), someValue(r))
}

func someText(r *rand.Rand) string {
	for {
		if v := someValue(r); v.Kind == api.Text {
			return v.Text
		}
	}
}

// somePred can be told, and is at most so deep.
func somePred(r *rand.Rand, deep int) api.Pred {
	if deep == 1 || r.IntN(4) == 0 {
		if r.IntN(6) == 0 {
			return all
		}
		return someAtom(r)
	}
	p := api.Pred{Kind: 6 + r.IntN(3)}
	for range 2 + r.IntN(3) {
		p.Kids = append(p.Kids, somePred(r, deep-1))
	}
	if p.Kind == api.PredNot {
		p.Kids = p.Kids[:1]
	}
	return p
}

// someQuery can be told.
func someQuery(r *rand.Rand) api.Query {
	q := api.Query{Limit: -1}
	for range 1 + r.IntN(3) {
		it := api.Item{Kind: 1 + r.IntN(7)}
		if it.Kind != api.ItemRows {
			it.Column = oneOf(r, goodNames())
		}
		q.Items = append(q.Items, it)
	}
	if r.IntN(4) > 0 {
		q.Where = somePred(r, 1+r.IntN(5))
	}
	for range max(0, r.IntN(6)-3) {
		q.Group = append(q.Group, oneOf(r, goodNames()))
	}
	for range max(0, r.IntN(6)-3) {
		q.Order = append(q.Order, api.Key{Item: r.IntN(64), Down: r.IntN(2) == 0})
	}
	if r.IntN(3) == 0 {
		q.Limit = oneOf(r, []int{0, 1, 5, 10, 1 << 24, math.MaxInt})
	}
	return q
}

// spoiltPred is the same predicate with one field changed somewhere in it; it may be told all the same.
func spoiltPred(r *rand.Rand, p api.Pred) api.Pred {
	p.Kids, p.List = slices.Clone(p.Kids), slices.Clone(p.List)
	if len(p.Kids) > 0 && r.IntN(3) > 0 {
		at := r.IntN(len(p.Kids))
		p.Kids[at] = spoiltPred(r, p.Kids[at])
		return p
	}
	values := append(badValues(), goodValues()...)
	switch r.IntN(8) {
	case 0:
		p.Kind = r.IntN(12) - 2
	case 1:
		p.Column = oneOf(r, append(badNames()[:len(badNames())-1], "a"))
	case 2:
		p.Op = oneOf(r, []int{math.MinInt, -1, 0, 1, 6, 7, 8, 1 << 32, math.MaxInt})
	case 3:
		p.Value = oneOf(r, values)
	case 4:
		p.List = append(p.List, oneOf(r, values))
	case 5:
		p.List = p.List[:len(p.List)/2]
	case 6:
		p.Kids = append(p.Kids, somePred(r, 1))
	case 7:
		p.Kids = p.Kids[:len(p.Kids)/2]
	}
	return p
}

// spoiltQuery is the same query with one field changed; it may be told all the same.
func spoiltQuery(r *rand.Rand, q api.Query) api.Query {
	q.Items, q.Group, q.Order = slices.Clone(q.Items), slices.Clone(q.Group), slices.Clone(q.Order)
	at := r.IntN(len(q.Items))
	switch r.IntN(9) {
	case 0:
		q.Items[at].Kind = oneOf(r, []int{math.MinInt, -1, 0, 1, 2, 3, 7, 8, 1<<32 + 1, math.MaxInt})
	case 1:
		q.Items[at].Column = oneOf(r, append(badNames()[:len(badNames())-1], "a"))
	case 2:
		q.Items = q.Items[:len(q.Items)/2]
	case 3:
		q.Group = append(q.Group, oneOf(r, append(badNames()[:len(badNames())-1], "a")))
	case 4:
		q.Order = append(q.Order, api.Key{Item: oneOf(r, []int{math.MinInt, -1, 0, 63, 64, 1 << 32, math.MaxInt})})
	case 5:
		q.Limit = oneOf(r, []int{math.MinInt, -3, -2, -1, 0, math.MaxInt})
	default:
		q.Where = spoiltPred(r, q.Where)
	}
	return q
}

// sampleTexts have each rule of the language in each way in which it can be gone through.
func sampleTexts() []string {
	return []string{
		"select a",
		"select a, b, `by`",
		"select rows(), count(a), sum(b), min(c), max(`d`), mean(`in`)",
		"select rows, count, sum, min, max, mean",
		"select `rows`, `sum`, rows ( ), sum ( sum )",
		"select a where all",
		"select a where not not all",
		"select a where a = 1 and b <> \"x\" or c < 2 and d <= 3 or e > -4 and f >= \"\"",
		"select a where a in () or a in (1) or a in (1, \"x\", -2) and b in (\"\")",
		"select a where a between 1 and 2 and b between \"x\" and \"y\" or c between 3 and \"\"",
		"select a where a is null and not b is null",
		"select a where a begins \"\" or b begins \"x\\\"\\\\\\x00\"",
		"select a where (a = 1 or (b = 2 and (not (c = 3)))) and ((all))",
		"select a group by a",
		"select a group by a, `group`, c",
		"select a order by 1",
		"select a order by 1 down, 64, 2 down",
		"select a limit 0",
		"select a where a = 1 group by a order by 1 limit 9223372036854775807",
		"select a, b where a = 1 limit 1",
		"select a where not (a in (1)) group by a limit 2",
		"select a group by a order by 2 down limit 3",
	}
}

// sampleTokens are one of each sort, and more where it says something; among them some that are no tokens.
func sampleTokens() []string {
	out := slices.Concat(wordsOfLanguage, foldNames, []string{"rows", "a", "zz", "`a`", "`sum`", "`not`", "`rows`"})
	out = append(out, "0", "1", "64", "65", "-1", "-0", "007", "9223372036854775808", "\"\"", "\"x\"", "\"\\x41\"", "\"é\"", "\"x", "\"\\\"")
	out = append(out, "(", ")", ",", "=", "<>", "<=", ">=", "<", ">", "$", "-", "``", "`9`", "`a", ";", "é", "_a", "\r", strings.Repeat("x", 65))
	return out
}

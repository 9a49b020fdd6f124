package lang_test

import (
	"fmt"
	"math"
	"math/big"
	"math/rand/v2"
	"regexp"
	"slices"
	"strconv"
	"strings"

	"colonnade/api"
)

// The words of the language, the names that may be more than names, and the signs of the comparisons, each at its Op.
var (
	wordsOfLanguage = strings.Fields("select where group by order limit and or not in between is null begins all down")
	foldNames       = strings.Fields("count sum min max mean")
	opSigns         = []string{"?", "=", "<>", "<", "<=", ">", ">="}
)

// tok is a token: its sort is word, name, quoted, number, text, sign, none or end.
type tok struct {
	sort, s string
	at      int
}

var (
	tokenForm  = regexp.MustCompile("(?s)^(?:([A-Za-z][A-Za-z0-9_]*)|(`[A-Za-z][A-Za-z0-9_]{0,63}`)|(-?[0-9]+)|(\"(?:[^\"\\\\]|\\\\.)*\")|(<>|<=|>=|[(),=<>]))")
	blanksForm = regexp.MustCompile(`^[ \t\n]*`)
	textForm   = regexp.MustCompile(`^"(?:[ !#-\[\]-~]|\\"|\\\\|\\x(?:[01][0-9a-f]|7f|[89a-f][0-9a-f]))*"$`)
)

// nextToken is what stands from a place on, behind the blanks.
func nextToken(text string, from int) tok {
	at := from + len(blanksForm.FindString(text[from:]))
	if at == len(text) {
		return tok{"end", "", at}
	}
	m := tokenForm.FindStringSubmatch(text[at:])
	switch {
	case m == nil || len(m[1]) > 64:
		return tok{"none", "", at}
	case slices.Contains(wordsOfLanguage, m[1]):
		return tok{"word", m[1], at}
	}
	for i, sort := range []string{"name", "quoted", "number", "text", "sign"} {
		if m[i+1] != "" {
			return tok{sort, m[i+1], at}
		}
	}
	panic("a token of no sort")
}

// allTokens ends with the first one of the sort none or end.
func allTokens(text string) []tok {
	var out []tok
	for at := 0; ; {
		t := nextToken(text, at)
		out = append(out, t)
		if t.sort == "none" || t.sort == "end" {
			return out
		}
		at = t.at + len(t.s)
	}
}

// grammar is the chapter's; what begins with a great letter is a rule. A key's number and the limit's have names of their own.
const grammar = `
TEXT = select ITEMS WHERE GROUP ORDER LIMIT
ITEMS = ITEM | ITEMS , ITEM
ITEM = name | rows ( ) | fold ( name )
WHERE = | where OR
GROUP = | group by NAMES
NAMES = name | NAMES , name
ORDER = | order by KEYS
KEYS = KEY | KEYS , KEY
KEY = place | place down
LIMIT = | limit most
OR = AND | OR or AND
AND = UNARY | AND and UNARY
UNARY = not UNARY | ( OR ) | all | ATOM
ATOM = name SIGN VALUE | name in ( ) | name in ( VALUES ) | name between VALUE and VALUE | name is null | name begins text
VALUES = VALUE | VALUES , VALUE
VALUE = number | text
SIGN = = | <> | < | <= | > | >=`

type rule struct {
	left  string
	right []string
}

var rules, rulesOf, mayBeMissing = readGrammar()

func readGrammar() (all []rule, of map[string][]int, missing map[string]bool) {
	of, missing = map[string][]int{}, map[string]bool{}
	for _, line := range strings.Split(strings.TrimSpace(grammar), "\n") {
		left, rest, _ := strings.Cut(line, " =")
		for _, right := range strings.Split(rest, "|") {
			of[left] = append(of[left], len(all))
			all = append(all, rule{left, strings.Fields(right)})
			missing[left] = missing[left] || len(strings.Fields(right)) == 0
		}
	}
	return all, of, missing
}

// under is a rule that is under way: how many of its symbols have been met, and ahead of which token it began.
type under struct{ rule, met, from int }

func (u under) next() string {
	if right := rules[u.rule].right; u.met < len(right) {
		return right[u.met]
	}
	return ""
}

// chart is what is under way behind each number of tokens: Earley's way, which asks of any grammar whether some text of it goes on so.
type chart [][]under

func (c chart) grown(set []under) chart {
	now := len(c)
	met := map[under]bool{}
	var all []under
	add := func(u under) {
		if !met[u] {
			met[u] = true
			all = append(all, u)
		}
	}
	for _, u := range set {
		add(u)
	}
	for i := 0; i < len(all); i++ {
		u := all[i]
		next := u.next()
		if next == "" && u.from < now {
			for _, o := range c[u.from] {
				if o.next() == rules[u.rule].left {
					add(under{o.rule, o.met + 1, o.from})
				}
			}
		}
		for _, r := range rulesOf[next] {
			add(under{r, 0, now})
		}
		if mayBeMissing[next] {
			add(under{u.rule, u.met + 1, u.from})
		}
	}
	return append(c, all)
}

func newChart() chart { return chart{}.grown([]under{{0, 0, 0}}) }

func stands(symbol string, t tok) bool {
	switch t.sort {
	case "word", "sign":
		return symbol == t.s
	case "name":
		return symbol == "name" || symbol == "rows" && t.s == "rows" || symbol == "fold" && slices.Contains(foldNames, t.s)
	case "quoted":
		return symbol == "name"
	case "number":
		return symbol == "number" || symbol == "place" || symbol == "most"
	}
	return symbol == t.sort
}

// with is the chart with one token more, and as what it stands there; no symbol, if no text goes on so.
func (c chart) with(t tok) (chart, string) {
	var set []under
	as := ""
	for _, u := range c[len(c)-1] {
		if next := u.next(); next != "" && stands(next, t) {
			set = append(set, under{u.rule, u.met + 1, u.from})
			as = next
		}
	}
	if set == nil {
		return c, ""
	}
	return c.grown(set), as
}

// whole is whether the tokens are a text of the language.
func (c chart) whole() bool { return slices.Contains(c[len(c)-1], under{0, len(rules[0].right), 0}) }

// readValue is layer 5's word of numbers and texts.
func readValue(s string) (api.Value, bool) {
	if s[0] == '"' {
		v, err := strconv.Unquote(s)
		if err != nil || !textForm.MatchString(s) || len(v) > 65535 {
			return api.Value{}, false
		}
		return word(v), true
	}
	n, ok := new(big.Int).SetString(s, 10)
	if !ok || n.String() != s || !n.IsInt64() {
		return api.Value{}, false
	}
	return num(n.Int64()), true
}

// saysSome is whether a token that stands as a symbol has its bounds kept.
func saysSome(t tok, as string) bool {
	if t.sort != "number" && t.sort != "text" {
		return true
	}
	v, ok := readValue(t.s)
	switch as {
	case "place":
		return ok && v.Int >= 1 && v.Int <= 64
	case "most":
		return ok && v.Int >= 0
	}
	return ok
}

// readText is P24.1 without the two limits.
func readText(text string) (api.Query, int, api.Errno) {
	tokens := allTokens(text)
	c := newChart()
	for _, t := range tokens {
		if t.sort == "none" {
			return api.Query{}, t.at, 240
		}
		if t.sort == "end" {
			if c.whole() {
				break
			}
			return api.Query{}, t.at, 241
		}
		more, as := c.with(t)
		switch {
		case as == "" && c.whole():
			return api.Query{}, t.at, 242
		case as == "":
			return api.Query{}, t.at, 241
		case !saysSome(t, as):
			return api.Query{}, t.at, 50
		}
		c = more
	}
	return meaning(tokens[:len(tokens)-1]), 0, 0
}

// readParse is P24.1.
func readParse(text string) (api.Query, int, api.Errno) {
	if len(text) > 65536 {
		return api.Query{}, 0, 3
	}
	q, at, e := readText(text)
	if e == 0 && depth(q.Where) > 64 {
		return api.Query{}, 0, 231
	}
	return q, at, e
}

// isOne is whether a token is that word or sign.
func (t tok) isOne(s string) bool { return t.s == s && (t.sort == "word" || t.sort == "sign") }

// split cuts tokens at each word or sign that stands in no parentheses; at an "and", but not at that of "between".
func split(l []tok, at string) [][]tok {
	var out [][]tok
	from, deep := 0, 0
	for i, t := range l {
		switch {
		case t.isOne("("):
			deep++
		case t.isOne(")"):
			deep--
		case deep == 0 && t.isOne(at) && (at != "and" || i < 2 || !l[i-2].isOne("between")):
			out = append(out, l[from:i])
			from = i + 1
		}
	}
	return append(out, l[from:])
}

// behind is what stands behind a word, up to the next one of these words.
func behind(l []tok, word string, ends ...string) []tok {
	from := slices.IndexFunc(l, func(t tok) bool { return t.isOne(word) })
	if from < 0 {
		return nil
	}
	l = l[from+1:]
	to := slices.IndexFunc(l, func(t tok) bool { return t.sort == "word" && slices.Contains(ends, t.s) })
	if to < 0 {
		return l
	}
	return l[:to]
}

// meaning is what tokens say that are a text of the language: they are cut, and the pieces are cut again.
func meaning(l []tok) api.Query {
	q := api.Query{Limit: -1}
	for _, piece := range split(behind(l, "select", "where", "group", "order", "limit"), ",") {
		q.Items = append(q.Items, meaningOfItem(piece))
	}
	if where := behind(l, "where", "group", "order", "limit"); where != nil {
		q.Where = meaningOfPred(where)
	}
	if group := behind(l, "group", "order", "limit"); group != nil {
		for _, piece := range split(group[1:], ",") {
			q.Group = append(q.Group, bareName(piece[0]))
		}
	}
	if order := behind(l, "order", "limit"); order != nil {
		for _, piece := range split(order[1:], ",") {
			q.Order = append(q.Order, api.Key{Item: int(meaningOfValue(piece[0]).Int) - 1, Down: len(piece) > 1})
		}
	}
	if limit := behind(l, "limit"); limit != nil {
		q.Limit = int(meaningOfValue(limit[0]).Int)
	}
	return q
}

func bareName(t tok) string { return strings.Trim(t.s, "`") }

func meaningOfItem(l []tok) api.Item {
	switch len(l) {
	case 1:
		return column(bareName(l[0]))
	case 3:
		return rows
	}
	return api.Item{Kind: 3 + slices.Index(foldNames, l[0].s), Column: bareName(l[2])}
}

func meaningOfPred(l []tok) api.Pred {
	for i, word := range []string{"or", "and"} {
		if pieces := split(l, word); len(pieces) > 1 {
			p := api.Pred{Kind: 7 - i}
			for _, piece := range pieces {
				p.Kids = append(p.Kids, meaningOfPred(piece))
			}
			return p
		}
	}
	switch {
	case l[0].isOne("not"):
		return not(meaningOfPred(l[1:]))
	case l[0].isOne("("):
		return meaningOfPred(l[1 : len(l)-1])
	case l[0].isOne("all"):
		return all
	}
	return meaningOfAtom(bareName(l[0]), l[1], l[2:])
}

func meaningOfAtom(name string, what tok, l []tok) api.Pred {
	var values []api.Value
	for _, t := range l {
		if t.sort == "number" || t.sort == "text" {
			values = append(values, meaningOfValue(t))
		}
	}
	switch what.s {
	case "in":
		return in(name, values...)
	case "between":
		return between(name, values...)
	case "is":
		return isNull(name)
	case "begins":
		return begins(name, values[0])
	}
	return compared(name, slices.Index(opSigns, what.s), values[0])
}

func meaningOfValue(t tok) api.Value {
	v, _ := readValue(t.s)
	return v
}

// tellValue is layer 5's text, also of values that no text of the language says.
func tellValue(v api.Value) string {
	switch v.Kind {
	case 1:
		return big.NewInt(v.Int).String()
	case 2:
		var b strings.Builder
		for i := range len(v.Text) {
			c := v.Text[i]
			switch {
			case c == '"', c == '\\':
				b.WriteString("\\" + string(rune(c)))
			case 32 <= c && c <= 126:
				b.WriteByte(c)
			default:
				b.WriteString("\\x" + fmt.Sprintf("%02x", c))
			}
		}
		return `"` + b.String() + `"`
	}
	return "?"
}

func tellName(s string) string {
	if slices.Contains(wordsOfLanguage, s) {
		return "`" + s + "`"
	}
	return s
}

func tellAll[T any](l []T, tell func(T) string) []string {
	var out []string
	for _, x := range l {
		out = append(out, tell(x))
	}
	return out
}

func tellItem(it api.Item) string {
	switch {
	case it.Kind == 1:
		return tellName(it.Column)
	case it.Kind == 2:
		return "rows()"
	case 3 <= it.Kind && it.Kind <= 7:
		return foldNames[it.Kind-3] + "(" + tellName(it.Column) + ")"
	}
	return "?"
}

func tellKey(k api.Key) string {
	s := strconv.FormatInt(int64(k.Item)+1, 10)
	if k.Down {
		s += " down"
	}
	return s
}

// tellPred is the chapter's text of a predicate within one of that Kind, or within none (0).
func tellPred(p api.Pred, within int) string {
	kids := tellAll(p.Kids, func(k api.Pred) string { return tellPred(k, p.Kind) })
	values := tellAll(p.List, tellValue)
	name := tellName(p.Column)
	switch p.Kind {
	case 0:
		return "all"
	case 1:
		return name + " " + opSigns[max(0, p.Op%7)] + " " + tellValue(p.Value)
	case 2:
		return name + " in (" + strings.Join(values, ", ") + ")"
	case 3:
		return name + " between " + strings.Join(values, " and ")
	case 4:
		return name + " is null"
	case 5:
		return name + " begins " + tellValue(p.Value)
	case 6, 7:
		s := strings.Join(kids, []string{" and ", " or "}[p.Kind-6])
		if within != 0 && (p.Kind == 7 || within != 7) {
			return "(" + s + ")"
		}
		return s
	case 8:
		return "not " + strings.Join(kids, " ")
	}
	return "?"
}

// tellQuery is the chapter's text of a query that can be told, and just some text of any other.
func tellQuery(q api.Query) string {
	s := "select " + strings.Join(tellAll(q.Items, tellItem), ", ")
	if q.Where.Kind != 0 {
		s += " where " + tellPred(q.Where, 0)
	}
	if len(q.Group) > 0 {
		s += " group by " + strings.Join(tellAll(q.Group, tellName), ", ")
	}
	if len(q.Order) > 0 {
		s += " order by " + strings.Join(tellAll(q.Order, tellKey), ", ")
	}
	if q.Limit != -1 {
		s += " limit " + strconv.Itoa(q.Limit)
	}
	return s
}

// readPrint is P24.2. A query can be told, if a text says it; and if any does, then this one.
func readPrint(q api.Query) (string, api.Errno) {
	if depth(q.Where) > 64 {
		return "", 231
	}
	s := tellQuery(q)
	if o, _, e := readText(s); e != 0 || !sameQuery(q, o) {
		return "", 230
	}
	if len(s) > 65536 {
		return "", 3
	}
	return s, 0
}

func depth(p api.Pred) int {
	d := 0
	for _, k := range p.Kids {
		d = max(d, depth(k))
	}
	return 1 + d
}

// sameValue is whether two values are the same to the last bit.
func sameValue(a, b api.Value) bool {
	return a.Kind == b.Kind && a.Int == b.Int && a.Text == b.Text && math.Float64bits(a.Real) == math.Float64bits(b.Real)
}

// samePred takes nil and empty lists for the same.
func samePred(a, b api.Pred) bool {
	return a.Kind == b.Kind && a.Column == b.Column && a.Op == b.Op && sameValue(a.Value, b.Value) && slices.EqualFunc(a.List, b.List, sameValue) && slices.EqualFunc(a.Kids, b.Kids, samePred)
}

func sameQuery(a, b api.Query) bool {
	return slices.Equal(a.Items, b.Items) && samePred(a.Where, b.Where) && slices.Equal(a.Group, b.Group) && slices.Equal(a.Order, b.Order) && a.Limit == b.Limit
}

// byChance is a source of numbers, the same in each run.
func byChance(seed uint64) *rand.Rand { return rand.New(rand.NewPCG(24, seed)) }

func oneOf[T any](r *rand.Rand, l []T) T { return l[r.IntN(len(l))] }

// brief is a thing as text, cut where it is long.
func brief(v any) string {
	s := fmt.Sprintf("%v", v)
	if len(s) > 300 {
		s = s[:300] + ".."
	}
	return strings.ToValidUTF8(s, "?")
}

package query_test

import (
	"cmp"
	"fmt"
	"math"
	"math/rand/v2"
	"slices"
	"strings"

	"colonnade/api"
)

var null = api.Value{}

// minusZero is the zero with a sign, which no constant is.
var minusZero = math.Copysign(0, -1)

func num(i int64) api.Value     { return api.Value{Kind: api.Int, Int: i} }
func word(s string) api.Value   { return api.Value{Kind: api.Text, Text: s} }
func float(f float64) api.Value { return api.Value{Kind: api.Real, Real: f} }

func list(l ...api.Value) []api.Value { return l }

// twoColumns are the chapter's.
func twoColumns() []api.Column {
	return []api.Column{{Name: "a", Type: api.Int, Null: true}, {Name: "t", Type: api.Text}}
}

// fourColumns are of each type, with nulls and without them.
func fourColumns() []api.Column {
	return []api.Column{{Name: "a", Type: api.Int, Null: true}, {Name: "t", Type: api.Text}, {Name: "n", Type: api.Int}, {Name: "s", Type: api.Text, Null: true}}
}

func compared(name string, op int, v api.Value) api.Pred {
	return api.Pred{Kind: api.PredCompare, Column: name, Op: op, Value: v}
}

func in(name string, l ...api.Value) api.Pred {
	return api.Pred{Kind: api.PredIn, Column: name, List: l}
}

func between(name string, l ...api.Value) api.Pred {
	return api.Pred{Kind: api.PredBetween, Column: name, List: l}
}

func isNull(name string) api.Pred { return api.Pred{Kind: api.PredNull, Column: name} }

func begins(name string, v api.Value) api.Pred {
	return api.Pred{Kind: api.PredBegins, Column: name, Value: v}
}

func and(kids ...api.Pred) api.Pred { return api.Pred{Kind: api.PredAnd, Kids: kids} }
func or(kids ...api.Pred) api.Pred  { return api.Pred{Kind: api.PredOr, Kids: kids} }
func not(kids ...api.Pred) api.Pred { return api.Pred{Kind: api.PredNot, Kids: kids} }

// nots are so many about a predicate.
func nots(n int, p api.Pred) api.Pred {
	for range n {
		p = not(p)
	}
	return p
}

// all is the predicate of every row.
var all = api.Pred{Kind: api.PredAll}

// lessThree is the chapter's a < 3.
func lessThree() api.Pred { return compared("a", api.Lt, num(3)) }

func column(name string) api.Item { return api.Item{Kind: api.ItemColumn, Column: name} }

func sum(name string) api.Item { return api.Item{Kind: api.ItemSum, Column: name} }

var rows = api.Item{Kind: api.ItemRows}

// asking is the query of these items, of all rows.
func asking(items ...api.Item) api.Query { return api.Query{Items: items, Limit: -1} }

// valueMayBe is the page's word, field by field.
func valueMayBe(v api.Value) bool {
	plus := math.Float64bits(v.Real) == 0
	switch v.Kind {
	case 0:
		return v.Int == 0 && plus && v.Text == ""
	case 1:
		return plus && v.Text == ""
	case 2:
		return v.Int == 0 && plus && len(v.Text) <= 65535
	case 3:
		return v.Int == 0 && v.Text == "" && math.Abs(v.Real) <= math.MaxFloat64 && (plus || v.Real != 0)
	}
	return false
}

// isNone is whether a value is zero, as a field that does not count is.
func isNone(v api.Value) bool { return v.Kind == 0 && valueMayBe(v) }

// ofColumn is whether a value is of a column.
func ofColumn(c api.Column, v api.Value) bool {
	return valueMayBe(v) && (v.Kind == c.Type || v.Kind == 0 && c.Null)
}

func columnOf(cols []api.Column, name string) (api.Column, bool) {
	at := slices.IndexFunc(cols, func(c api.Column) bool { return c.Name == name })
	if at < 0 {
		return api.Column{}, false
	}
	return cols[at], true
}

// isName is the word of layer 15.
func isName(s string) bool {
	letters := "abcdefghijklmnopqrstuvwxyzABCDEFGHIJKLMNOPQRSTUVWXYZ"
	return len(s) >= 1 && len(s) <= 64 && strings.Contains(letters, s[:1]) && strings.Trim(s, letters+"0123456789_") == ""
}

// columnsMayBe is the word of layer 15.
func columnsMayBe(cols []api.Column) bool {
	for i, c := range cols {
		if !isName(c.Name) || c.Type != 1 && c.Type != 2 {
			return false
		}
		if _, is := columnOf(cols[:i], c.Name); is {
			return false
		}
	}
	return len(cols) >= 1 && len(cols) <= 256
}

// atomMayBe is the page's word.
func atomMayBe(cols []api.Column, p api.Pred) bool {
	col, is := columnOf(cols, p.Column)
	if !is || len(p.Kids) > 0 {
		return false
	}
	good := func(v api.Value) bool { return valueMayBe(v) && v.Kind != 0 && v.Kind == col.Type }
	noOp, noValue, noList := p.Op == 0, isNone(p.Value), len(p.List) == 0
	goodList := !slices.ContainsFunc(p.List, func(v api.Value) bool { return !good(v) })
	switch p.Kind {
	case 1:
		return p.Op >= 1 && p.Op <= 6 && good(p.Value) && noList
	case 2:
		return noOp && noValue && goodList && len(p.List) <= 1024
	case 3:
		return noOp && noValue && goodList && len(p.List) == 2
	case 4:
		return noOp && noValue && noList
	case 5:
		return noOp && good(p.Value) && noList && col.Type == 2
	}
	return false
}

// depth is how deep predicates stand within one another.
func depth(p api.Pred) int {
	d := 0
	for _, k := range p.Kids {
		d = max(d, depth(k))
	}
	return 1 + d
}

// size is how many predicates there are.
func size(p api.Pred) int {
	n := 1
	for _, k := range p.Kids {
		n += size(k)
	}
	return n
}

// wellMade is whether each predicate for itself may be.
func wellMade(cols []api.Column, p api.Pred) bool {
	if p.Kind >= 1 && p.Kind <= 5 {
		return atomMayBe(cols, p)
	}
	n := len(p.Kids)
	right := p.Kind == 0 && n == 0 || (p.Kind == 6 || p.Kind == 7) && n >= 2 || p.Kind == 8 && n == 1
	if !right || p.Column != "" || p.Op != 0 || !isNone(p.Value) || len(p.List) > 0 {
		return false
	}
	for _, k := range p.Kids {
		if !wellMade(cols, k) {
			return false
		}
	}
	return true
}

// readPred is P23.2, after the columns.
func readPred(cols []api.Column, p api.Pred) api.Errno {
	switch {
	case !columnsMayBe(cols):
		return 150
	case !wellMade(cols, p) || depth(p) > 64 || size(p) > 4096:
		return 230
	}
	return 0
}

// itemMayBe is the first point of what a query must be.
func itemMayBe(cols []api.Column, it api.Item) bool {
	col, is := columnOf(cols, it.Column)
	switch it.Kind {
	case 2:
		return it.Column == ""
	case 1, 3, 5, 6:
		return is
	case 4, 7:
		return is && col.Type == 1
	}
	return false
}

// readCheck is P23.1, point by point.
func readCheck(cols []api.Column, q api.Query) api.Errno {
	if !columnsMayBe(cols) {
		return 150
	}
	right := len(q.Items) >= 1 && len(q.Items) <= 64 && readPred(cols, q.Where) == 0 && len(q.Group) <= 256 && len(q.Order) <= 64 && q.Limit >= -1
	columns := 0
	for _, it := range q.Items {
		right = right && itemMayBe(cols, it)
		if it.Kind == 1 {
			columns++
			right = right && (len(q.Group) == 0 || slices.Contains(q.Group, it.Column))
		}
	}
	if len(q.Group) == 0 {
		right = right && (columns == 0 || columns == len(q.Items))
	}
	for i, name := range q.Group {
		_, is := columnOf(cols, name)
		right = right && is && !slices.Contains(q.Group[:i], name)
	}
	for _, k := range q.Order {
		right = right && 0 <= k.Item && k.Item <= len(q.Items)-1
	}
	if !right {
		return 230
	}
	return 0
}

// order is how two values of one column stand, neither of them Null.
func order(a, b api.Value) int {
	if a.Kind == 1 {
		return cmp.Compare(a.Int, b.Int)
	}
	return cmp.Compare(a.Text, b.Text)
}

// atomSays is the page's word of a value of the atom's column.
func atomSays(p api.Pred, v api.Value) api.Truth {
	if v.Kind == 0 {
		if p.Kind == 4 {
			return api.Yes
		}
		return api.Maybe
	}
	says := false
	switch p.Kind {
	case 1:
		c := order(v, p.Value)
		says = p.Op == 1 && c == 0 || p.Op == 2 && c != 0 || p.Op == 3 && c < 0 || p.Op == 4 && c <= 0 || p.Op == 5 && c > 0 || p.Op == 6 && c >= 0
	case 2:
		says = slices.ContainsFunc(p.List, func(w api.Value) bool { return order(v, w) == 0 })
	case 3:
		says = order(v, p.List[0]) >= 0 && order(v, p.List[1]) <= 0
	case 5:
		says = len(v.Text) >= len(p.Value.Text) && v.Text[:len(p.Value.Text)] == p.Value.Text
	}
	if says {
		return api.Yes
	}
	return api.No
}

// rank puts the truths into their order.
func rank(t api.Truth) int { return []int{0, 2, 1}[t] }

// says is the page's word of a row.
func says(cols []api.Column, p api.Pred, row []api.Value) api.Truth {
	if p.Kind == 0 {
		return api.Yes
	}
	if p.Kind <= 5 {
		return atomSays(p, row[slices.IndexFunc(cols, func(c api.Column) bool { return c.Name == p.Column })])
	}
	out := []api.Truth{6: api.Yes, 7: api.No, 8: api.No}[p.Kind]
	for _, k := range p.Kids {
		t := says(cols, k, row)
		if p.Kind == 6 && rank(t) < rank(out) || p.Kind != 6 && rank(t) > rank(out) {
			out = t
		}
	}
	if p.Kind == 8 {
		return []api.Truth{api.Yes, api.No, api.Maybe}[out]
	}
	return out
}

// readTruth is P23.3.
func readTruth(cols []api.Column, p api.Pred, row []api.Value) (api.Truth, api.Errno) {
	if e := readPred(cols, p); e != 0 {
		return 0, e
	}
	if len(row) != len(cols) {
		return 0, 50
	}
	for i, v := range row {
		if !ofColumn(cols[i], v) {
			return 0, 50
		}
	}
	return says(cols, p, row), 0
}

// readForm is the chapter's word of both forms: all kids' forms are made first, and then those of the Kind are opened.
func readForm(p api.Pred, turned bool) api.Pred {
	switch {
	case p.Kind == 6 || p.Kind == 7:
		kind := p.Kind
		if turned {
			kind = 13 - kind
		}
		out := api.Pred{Kind: kind}
		for _, k := range p.Kids {
			if f := readForm(k, turned); f.Kind == kind {
				out.Kids = append(out.Kids, f.Kids...)
			} else {
				out.Kids = append(out.Kids, f)
			}
		}
		return out
	case p.Kind == 8 && len(p.Kids) == 1:
		return readForm(p.Kids[0], !turned)
	case !turned:
		return p
	case p.Kind == 1 && p.Op >= 1 && p.Op <= 6 && len(p.List) == 0 && len(p.Kids) == 0:
		return compared(p.Column, []int{0, 2, 1, 6, 5, 4, 3}[p.Op], p.Value)
	}
	return not(p)
}

// readNeeds is P23.5: each column is asked whether something names it.
func readNeeds(cols []api.Column, q api.Query) []int {
	if readCheck(cols, q) != 0 {
		return nil
	}
	var out []int
	for i, c := range cols {
		if slices.ContainsFunc(q.Items, func(it api.Item) bool { return it.Column == c.Name }) || slices.Contains(q.Group, c.Name) || names(q.Where, c.Name) {
			out = append(out, i)
		}
	}
	return out
}

// names is whether some atom names a column.
func names(p api.Pred, name string) bool {
	return p.Column == name || slices.ContainsFunc(p.Kids, func(k api.Pred) bool { return names(k, name) })
}

// sameValue is whether two values are the same to the last bit.
func sameValue(a, b api.Value) bool {
	return a.Kind == b.Kind && a.Int == b.Int && a.Text == b.Text && math.Float64bits(a.Real) == math.Float64bits(b.Real)
}

// samePred takes nil and empty lists for the same.
func samePred(a, b api.Pred) bool {
	return a.Kind == b.Kind && a.Column == b.Column && a.Op == b.Op && sameValue(a.Value, b.Value) && slices.EqualFunc(a.List, b.List, sameValue) && slices.EqualFunc(a.Kids, b.Kids, samePred)
}

// cloned is the same predicate, all of it in other memory.
func cloned(p api.Pred) api.Pred {
	p.List = append([]api.Value{}, p.List...)
	kids := []api.Pred{}
	for _, k := range p.Kids {
		kids = append(kids, cloned(k))
	}
	p.Kids = kids
	return p
}

// byChance is a source of numbers, the same in each run.
func byChance(seed uint64) *rand.Rand { return rand.New(rand.NewPCG(23, seed)) }

func oneOf[T any](r *rand.Rand, l []T) T { return l[r.IntN(len(l))] }

// brief is a thing as text, cut where it is long.
func brief(v any) string {
	s := fmt.Sprintf("%v", v)
	if len(s) > 300 {
		s = s[:300] + ".."
	}
	return strings.ToValidUTF8(s, "?")
}

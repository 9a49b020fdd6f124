package logic_test

import (
	"cmp"
	"fmt"
	"math"
	"math/rand/v2"
	"slices"
	"strings"
	"testing"

	"colonnade/api"
	"colonnade/image"
	"colonnade/layout"
	"colonnade/logic"
)

var null = api.Value{}

func num(i int64) api.Value     { return api.Value{Kind: api.Int, Int: i} }
func word(s string) api.Value   { return api.Value{Kind: api.Text, Text: s} }
func float(f float64) api.Value { return api.Value{Kind: api.Real, Real: f} }

func list(l ...api.Value) []api.Value { return l }

func compared(name string, op int, v api.Value) api.Pred {
	return api.Pred{Kind: api.PredCompare, Column: name, Op: op, Value: v}
}

func in(name string, l ...api.Value) api.Pred {
	return api.Pred{Kind: api.PredIn, Column: name, List: l}
}

func between(name string, l ...api.Value) api.Pred {
	return api.Pred{Kind: api.PredBetween, Column: name, List: l}
}

func isNull(name string) api.Pred { return api.Pred{Kind: api.PredNull, Column: name} }

func begins(name string, v api.Value) api.Pred {
	return api.Pred{Kind: api.PredBegins, Column: name, Value: v}
}

func and(kids ...api.Pred) api.Pred { return api.Pred{Kind: api.PredAnd, Kids: kids} }
func or(kids ...api.Pred) api.Pred  { return api.Pred{Kind: api.PredOr, Kids: kids} }
func not(kids ...api.Pred) api.Pred { return api.Pred{Kind: api.PredNot, Kids: kids} }

// nots are so many about a predicate.
func nots(n int, p api.Pred) api.Pred {
	for range n {
		p = not(p)
	}
	return p
}

// all is the predicate of every row.
var all = api.Pred{Kind: api.PredAll}

// valueMayBe is the page's word, field by field.
func valueMayBe(v api.Value) bool {
	plus := math.Float64bits(v.Real) == 0
	switch v.Kind {
	case 0:
		return v.Int == 0 && plus && v.Text == ""
	case 1:
		return plus && v.Text == ""
	case 2:
		return v.Int == 0 && plus && len(v.Text) <= 65535
	}
	return false
}

// atomMayBe is the page's word.
func atomMayBe(cols []api.Column, p api.Pred) bool {
	at := numberOf(cols, p.Column)
	if at < 0 || len(p.Kids) > 0 {
		return false
	}
	good := func(v api.Value) bool { return valueMayBe(v) && v.Kind == cols[at].Type }
	noOp, noValue, noList := p.Op == 0, p.Value.Kind == 0 && valueMayBe(p.Value), len(p.List) == 0
	goodList := !slices.ContainsFunc(p.List, func(v api.Value) bool { return !good(v) })
	switch p.Kind {
	case 1:
		return p.Op >= 1 && p.Op <= 6 && good(p.Value) && noList
	case 2:
		return noOp && noValue && goodList && len(p.List) <= 1024
	case 3:
		return noOp && noValue && goodList && len(p.List) == 2
	case 4:
		return noOp && noValue && noList
	case 5:
		return noOp && good(p.Value) && noList && p.Value.Kind == 2
	}
	return false
}

func numberOf(cols []api.Column, name string) int {
	return slices.IndexFunc(cols, func(c api.Column) bool { return c.Name == name })
}

// wellMade is whether each predicate for itself may be.
func wellMade(cols []api.Column, p api.Pred) bool {
	if p.Kind >= 1 && p.Kind <= 5 {
		return atomMayBe(cols, p)
	}
	n := len(p.Kids)
	right := p.Kind == 0 && n == 0 || (p.Kind == 6 || p.Kind == 7) && n >= 2 || p.Kind == 8 && n == 1
	noValue := p.Value.Kind == 0 && valueMayBe(p.Value)
	return right && p.Column == "" && p.Op == 0 && noValue && len(p.List) == 0 && !slices.ContainsFunc(p.Kids, func(k api.Pred) bool { return !wellMade(cols, k) })
}

// measure is how deep predicates stand within one another, and how many there are.
func measure(p api.Pred) (deep, count int) {
	for _, k := range p.Kids {
		d, n := measure(k)
		deep, count = max(deep, d), count+n
	}
	return deep + 1, count + 1
}

func predMayBe(cols []api.Column, p api.Pred) bool {
	deep, count := measure(p)
	return wellMade(cols, p) && deep <= 64 && count <= 4096
}

// order is how two values of one type stand.
func order(a, b api.Value) int {
	return cmp.Or(cmp.Compare(a.Int, b.Int), cmp.Compare(a.Text, b.Text))
}

// atomSays is the page's word of a value of the atom's column.
func atomSays(p api.Pred, v api.Value) api.Truth {
	says := false
	switch {
	case p.Kind == 4:
		says = v.Kind == 0
	case v.Kind == 0:
		return api.Maybe
	case p.Kind == 1:
		c := order(v, p.Value)
		says = p.Op == 1 && c == 0 || p.Op == 2 && c != 0 || p.Op == 3 && c < 0 || p.Op == 4 && c <= 0 || p.Op == 5 && c > 0 || p.Op == 6 && c >= 0
	case p.Kind == 2:
		says = slices.ContainsFunc(p.List, func(w api.Value) bool { return order(v, w) == 0 })
	case p.Kind == 3:
		says = order(v, p.List[0]) >= 0 && order(v, p.List[1]) <= 0
	case p.Kind == 5:
		says = len(v.Text) >= len(p.Value.Text) && v.Text[:len(p.Value.Text)] == p.Value.Text
	}
	if says {
		return api.Yes
	}
	return api.No
}

// rank puts the truths into their order.
func rank(t api.Truth) int { return []int{0, 2, 1}[t] }

// says is the page's word of one row.
func says(cols []api.Column, p api.Pred, row []api.Value) api.Truth {
	if p.Kind == 0 {
		return api.Yes
	}
	if p.Kind <= 5 {
		return atomSays(p, row[numberOf(cols, p.Column)])
	}
	out := []api.Truth{6: api.Yes, 7: api.No, 8: api.No}[p.Kind]
	for _, k := range p.Kids {
		t := says(cols, k, row)
		if p.Kind == 6 && rank(t) < rank(out) || p.Kind != 6 && rank(t) > rank(out) {
			out = t
		}
	}
	if p.Kind == 8 {
		return []api.Truth{api.Yes, api.No, api.Maybe}[out]
	}
	return out
}

// asked are the columns of the atoms that are asked of rows, one behind the other, and as often as they are asked.
func asked(cols []api.Column, p api.Pred, rows [][]api.Value) []int {
	if len(rows) == 0 || p.Kind == 0 {
		return nil
	}
	if p.Kind <= 5 {
		return []int{numberOf(cols, p.Column)}
	}
	end := []api.Truth{6: api.No, 7: api.Yes, 8: api.Maybe}[p.Kind]
	out := asked(cols, p.Kids[0], rows)
	for i := 1; i < len(p.Kids); i++ {
		sofar := api.Pred{Kind: p.Kind, Kids: p.Kids[:i]}
		if !slices.ContainsFunc(rows, func(row []api.Value) bool { return says(cols, sofar, row) != end }) {
			break
		}
		out = append(out, asked(cols, p.Kids[i], rows)...)
	}
	return out
}

// table is a table, cut by a layout, and the image of both.
type table struct {
	t  api.Table
	l  api.Layout
	im *image.Image
}

// rows are those of a row group.
func (x table) rows(g int) [][]api.Value {
	from := 0
	for _, n := range x.l.Groups[:g] {
		from += n
	}
	return x.t.Rows[from : from+x.l.Groups[g]]
}

func mustImage(t *testing.T, tab api.Table, l api.Layout) table {
	t.Helper()
	b, e := layout.Write(tab, l)
	if e != api.OK {
		t.Fatalf("Write(%s, %s): %d", brief(tab), brief(l), e)
	}
	im, e := image.Open(b)
	if e != api.OK {
		t.Fatalf("Open(%s, %s): %d", brief(tab), brief(l), e)
	}
	return table{tab, l, im}
}

// mustAnswer holds Where of a row group to the plain reading, the predicate being one that may be.
func (x table) mustAnswer(t *testing.T, g int, p api.Pred) {
	t.Helper()
	rows := x.rows(g)
	yes, unknown, opened, e := logic.Where(x.im, g, p)
	if e != api.OK || yes == nil || unknown == nil || yes.Len() != len(rows) || unknown.Len() != len(rows) {
		t.Fatalf("Where of row group %d, %s: %v, %v, %d; want two sets of length %d", g, brief(p), yes, unknown, e, len(rows))
	}
	for i, row := range rows {
		if want := says(x.t.Columns, p, row); yes.Get(i) != (want == api.Yes) || unknown.Get(i) != (want == api.Maybe) {
			t.Fatalf("Where of row group %d, %s: of row %d, %s, Yes %v, Maybe %v; want %d", g, brief(p), i, brief(row), yes.Get(i), unknown.Get(i), want)
		}
	}
	want := slices.Compact(slices.Sorted(slices.Values(asked(x.t.Columns, p, rows))))
	if !slices.Equal(opened, want) {
		t.Fatalf("Where of row group %d, %s, opened %v, not %v", g, brief(p), opened, want)
	}
}

// mustAnswerAll asks each row group.
func (x table) mustAnswerAll(t *testing.T, p api.Pred) {
	t.Helper()
	for g := range x.l.Groups {
		x.mustAnswer(t, g, p)
	}
}

func mustRefuse(t *testing.T, im *image.Image, g int, p api.Pred, want api.Errno) {
	t.Helper()
	if yes, unknown, opened, e := logic.Where(im, g, p); e != want || yes != nil || unknown != nil || len(opened) != 0 {
		t.Fatalf("Where of row group %d, %s: %v, %v, %v, %d; want error %d alone", g, brief(p), yes, unknown, opened, e, want)
	}
}

// byChance is a source of numbers, the same in each run.
func byChance(seed uint64) *rand.Rand { return rand.New(rand.NewPCG(25, seed)) }

func oneOf[T any](r *rand.Rand, l []T) T { return l[r.IntN(len(l))] }

// brief is a thing as text, cut where it is long.
func brief(v any) string {
	s := fmt.Sprintf("%v", v)
	if len(s) > 300 {
		s = s[:300] + ".."
	}
	return strings.ToValidUTF8(s, "?")
}

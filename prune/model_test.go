package prune_test

import (
	"cmp"
	"fmt"
	"hash/fnv"
	"math"
	"math/rand/v2"
	"slices"
	"strings"
	"testing"

	"colonnade/api"
	"colonnade/image"
	"colonnade/prune"
)

// What stands in this file leans on no layer below: which truths are possible is read out of the page and the chapter, word by word.

var null = api.Value{}

func num(i int64) api.Value     { return api.Value{Kind: api.Int, Int: i} }
func word(s string) api.Value   { return api.Value{Kind: api.Text, Text: s} }
func float(f float64) api.Value { return api.Value{Kind: api.Real, Real: f} }

func list(l ...api.Value) []api.Value { return l }

func compared(name string, op int, v api.Value) api.Pred {
	return api.Pred{Kind: api.PredCompare, Column: name, Op: op, Value: v}
}

func in(name string, l ...api.Value) api.Pred {
	return api.Pred{Kind: api.PredIn, Column: name, List: l}
}

func between(name string, l ...api.Value) api.Pred {
	return api.Pred{Kind: api.PredBetween, Column: name, List: l}
}

func isNull(name string) api.Pred { return api.Pred{Kind: api.PredNull, Column: name} }

func begins(name string, v api.Value) api.Pred {
	return api.Pred{Kind: api.PredBegins, Column: name, Value: v}
}

func and(kids ...api.Pred) api.Pred { return api.Pred{Kind: api.PredAnd, Kids: kids} }
func or(kids ...api.Pred) api.Pred  { return api.Pred{Kind: api.PredOr, Kids: kids} }
func not(kids ...api.Pred) api.Pred { return api.Pred{Kind: api.PredNot, Kids: kids} }

// all is the predicate of every row.
var all = api.Pred{Kind: api.PredAll}

// none is the set of no truths.
var none = api.Truths{}

// set is the truths that letters name: N, Y and M.
func set(letters string) api.Truths {
	return api.Truths{No: strings.Contains(letters, "N"), Yes: strings.Contains(letters, "Y"), Maybe: strings.Contains(letters, "M")}
}

// allSets are all there are.
func allSets() []api.Truths {
	var out []api.Truths
	for _, s := range []string{"", "N", "Y", "M", "NY", "NM", "YM", "NYM"} {
		out = append(out, set(s))
	}
	return out
}

// ranks are the truths of a set, No being 0, Maybe 1 and Yes 2, so that they stand in their order.
func ranks(t api.Truths) []int {
	var l []int
	for i, is := range []bool{t.No, t.Maybe, t.Yes} {
		if is {
			l = append(l, i)
		}
	}
	return l
}

// ofRanks is the set of such truths.
func ofRanks(l ...int) api.Truths {
	return api.Truths{No: slices.Contains(l, 0), Maybe: slices.Contains(l, 1), Yes: slices.Contains(l, 2)}
}

// pairwise is what each truth of a and each of b come to.
func pairwise(a, b api.Truths, to func(x, y int) int) api.Truths {
	var l []int
	for _, x := range ranks(a) {
		for _, y := range ranks(b) {
			l = append(l, to(x, y))
		}
	}
	return ofRanks(l...)
}

func least(x, y int) int    { return min(x, y) }
func greatest(x, y int) int { return max(x, y) }

// opposed is the not of each truth.
func opposed(a api.Truths) api.Truths {
	return pairwise(a, set("N"), func(x, _ int) int { return 2 - x })
}

// has is whether a truth is in a set.
func has(s api.Truths, t api.Truth) bool {
	return t == api.No && s.No || t == api.Yes && s.Yes || t == api.Maybe && s.Maybe
}

// within is whether each truth of a is in b.
func within(a, b api.Truths) bool {
	return (!a.No || b.No) && (!a.Yes || b.Yes) && (!a.Maybe || b.Maybe)
}

// valueMayBe is the page's word, field by field, but for Reals, which no column has.
func valueMayBe(v api.Value) bool {
	plus := math.Float64bits(v.Real) == 0
	switch v.Kind {
	case 0:
		return v.Int == 0 && plus && v.Text == ""
	case 1:
		return plus && v.Text == ""
	case 2:
		return v.Int == 0 && plus && len(v.Text) <= 65535
	}
	return false
}

// order is how two values of one type stand.
func order(a, b api.Value) int {
	return cmp.Or(cmp.Compare(a.Int, b.Int), cmp.Compare(a.Text, b.Text))
}

// zoneMayBe is layer 14's word of a column whose Type is Int or Text.
func zoneMayBe(col api.Column, rows int, z api.Zone) bool {
	good := func(v api.Value) bool { return valueMayBe(v) && v.Kind == col.Type }
	ends := good(z.Min) && good(z.Max) && order(z.Min, z.Max) <= 0 && z.Nulls < rows
	if z.Nulls == rows {
		ends = z.Min.Kind == 0 && valueMayBe(z.Min) && z.Max.Kind == 0 && valueMayBe(z.Max)
	}
	nulls := z.Nulls == 0 || z.Nulls > 0 && col.Null
	return rows >= 0 && rows <= 16777216 && nulls && ends && slices.Contains(append(sizes(), 0), len(z.Bloom))
}

// sizes are all that a filter may have, written out.
func sizes() []int {
	return []int{8, 16, 32, 64, 128, 256, 512, 1024, 2048, 4096, 8192, 16384, 32768, 65536}
}

// atomFault is P18.1 of one column.
func atomFault(col api.Column, p api.Pred) api.Errno {
	found := p.Column == col.Name
	single, several := p.Kind == 1 || p.Kind == 5, p.Kind == 2 || p.Kind == 3
	values := slices.Clone(p.List)
	if single {
		values = list(p.Value)
	}
	switch {
	case p.Kind < 1 || p.Kind > 5 || p.Kind == 1 && (p.Op < 1 || p.Op > 6) || p.Kind == 5 && found && col.Type != 2:
		return api.ErrOp
	case p.Kind != 1 && p.Op != 0 || !single && (p.Value.Kind != 0 || !valueMayBe(p.Value)) || !several && len(p.List) > 0 || len(p.Kids) > 0 || p.Kind == 3 && len(p.List) != 2:
		return api.ErrArg
	case !found:
		return api.ErrColumn
	case p.Kind == 2 && len(p.List) > 1024:
		return api.ErrLarge
	case slices.ContainsFunc(values, func(v api.Value) bool { return !valueMayBe(v) || v.Kind != col.Type || v.Kind == 0 }):
		return api.ErrValue
	}
	return api.OK
}

// filterHas is whether a filter has a number or a text, by the library's hash; no bytes have everything.
func filterHas(b []byte, v api.Value) bool {
	if len(b) == 0 {
		return true
	}
	h := fnv.New64a()
	if v.Kind == 2 {
		h.Write([]byte("\x02" + v.Text))
	} else {
		h.Write([]byte{1})
		for i := range 8 {
			h.Write([]byte{byte(v.Int >> (8 * i))})
		}
	}
	at, step := h.Sum64()%(1<<32), h.Sum64()/(1<<32)|1
	for range 4 {
		bit := at % uint64(8*len(b))
		if b[bit/8]>>(bit%8)&1 == 0 {
			return false
		}
		at += step
	}
	return true
}

// A known is what the chapter has atoms asked of.
type known struct {
	z             api.Zone
	zones, blooms bool
}

func (k known) canBe(v api.Value) bool {
	inside := order(v, k.z.Min) >= 0 && order(v, k.z.Max) <= 0
	return (inside || !k.zones) && (filterHas(k.z.Bloom, v) || !k.blooms)
}

// only is whether the chunk can have one value alone, v.
func (k known) only(v api.Value) bool {
	return k.zones && order(k.z.Min, v) == 0 && order(k.z.Max, v) == 0
}

func startsWith(v, t api.Value) bool {
	return len(v.Text) >= len(t.Text) && v.Text[:len(t.Text)] == t.Text
}

// canYes is whether Yes is possible of a value that is not Null.
func (k known) canYes(p api.Pred) bool {
	v, free := p.Value, !k.zones
	toMin, toMax := order(k.z.Min, v), order(k.z.Max, v)
	switch p.Kind {
	case 2:
		return slices.ContainsFunc(p.List, k.canBe)
	case 3:
		return order(p.List[0], p.List[1]) <= 0 && (free || order(k.z.Min, p.List[1]) <= 0 && order(k.z.Max, p.List[0]) >= 0)
	case 5:
		return free || toMax >= 0 && (toMin <= 0 || startsWith(k.z.Min, v))
	}
	return []bool{1: k.canBe(v), 2: !k.only(v), 3: free || toMin < 0, 4: free || toMin <= 0, 5: free || toMax > 0, 6: free || toMax >= 0}[p.Op]
}

// canNo is whether No is.
func (k known) canNo(p api.Pred) bool {
	v, free := p.Value, !k.zones
	toMin, toMax := order(k.z.Min, v), order(k.z.Max, v)
	switch p.Kind {
	case 2:
		return !slices.ContainsFunc(p.List, k.only)
	case 3:
		return free || order(k.z.Min, p.List[0]) < 0 || order(k.z.Max, p.List[1]) > 0
	case 5:
		return free || !startsWith(k.z.Min, v) || !startsWith(k.z.Max, v)
	}
	return []bool{1: !k.only(v), 2: k.canBe(v), 3: free || toMax >= 0, 4: free || toMax > 0, 5: free || toMin <= 0, 6: free || toMin < 0}[p.Op]
}

// ofAtom is the possible truths of an atom.
func ofAtom(col api.Column, rows int, z api.Zone, p api.Pred, o api.Options) api.Truths {
	if rows == 0 {
		return none
	}
	nulls, others := col.Null, true
	if o.Zones {
		nulls, others = z.Nulls > 0, z.Nulls < rows
	}
	if p.Kind == 4 {
		return api.Truths{Yes: nulls, No: others}
	}
	k := known{z, o.Zones, o.Blooms}
	return api.Truths{Maybe: nulls, Yes: others && k.canYes(p), No: others && k.canNo(p)}
}

// wantAtom is P26.2.
func wantAtom(col api.Column, rows int, z api.Zone, p api.Pred, o api.Options) (api.Truths, api.Errno) {
	switch {
	case col.Type != 1 && col.Type != 2:
		return none, api.ErrSchema
	case !zoneMayBe(col, rows, z):
		return none, api.ErrZone
	case atomFault(col, p) != api.OK:
		return none, atomFault(col, p)
	}
	return ofAtom(col, rows, z, p, o), api.OK
}

func mustAtom(t *testing.T, col api.Column, rows int, z api.Zone, p api.Pred, o api.Options) {
	t.Helper()
	want, wantE := wantAtom(col, rows, z, p, o)
	if got, e := prune.Atom(col, rows, z, p, o); got != want || e != wantE {
		t.Fatalf("Atom(%s, %d, %s, %s, %v) = %v, %d; want %v, %d", brief(col), rows, brief(z), brief(p), o, got, e, want, wantE)
	}
}

// wellMade is whether each predicate for itself may be for the columns.
func wellMade(cols []api.Column, p api.Pred) bool {
	if p.Kind >= 1 && p.Kind <= 5 {
		at := numberOf(cols, p.Column)
		return at >= 0 && atomFault(cols[at], p) == api.OK
	}
	n := len(p.Kids)
	right := p.Kind == 0 && n == 0 || (p.Kind == 6 || p.Kind == 7) && n >= 2 || p.Kind == 8 && n == 1
	noValue := p.Value.Kind == 0 && valueMayBe(p.Value)
	return right && p.Column == "" && p.Op == 0 && noValue && len(p.List) == 0 && !slices.ContainsFunc(p.Kids, func(k api.Pred) bool { return !wellMade(cols, k) })
}

// measure is how deep predicates stand within one another, and how many there are.
func measure(p api.Pred) (deep, count int) {
	for _, k := range p.Kids {
		d, n := measure(k)
		deep, count = max(deep, d), count+n
	}
	return deep + 1, count + 1
}

func predMayBe(cols []api.Column, p api.Pred) bool {
	deep, count := measure(p)
	return wellMade(cols, p) && deep <= 64 && count <= 4096
}

func numberOf(cols []api.Column, name string) int {
	return slices.IndexFunc(cols, func(c api.Column) bool { return c.Name == name })
}

// ofPred is the possible truths of a predicate that may be, in a row group of so many rows and with such records.
func ofPred(cols []api.Column, rows int, zones []api.Zone, p api.Pred, o api.Options) api.Truths {
	if p.Kind == 0 {
		return api.Truths{Yes: rows > 0}
	}
	if p.Kind <= 5 {
		at := numberOf(cols, p.Column)
		return ofAtom(cols[at], rows, zones[at], p, o)
	}
	out := ofPred(cols, rows, zones, p.Kids[0], o)
	if p.Kind == 8 {
		return opposed(out)
	}
	for _, k := range p.Kids[1:] {
		out = pairwise(out, ofPred(cols, rows, zones, k, o), []func(x, y int) int{6: least, 7: greatest}[p.Kind])
	}
	return out
}

// atomSays is the page's word of a value of the atom's column.
func atomSays(p api.Pred, v api.Value) api.Truth {
	says := false
	switch {
	case p.Kind == 4:
		says = v.Kind == 0
	case v.Kind == 0:
		return api.Maybe
	case p.Kind == 1:
		c := order(v, p.Value)
		says = p.Op == 1 && c == 0 || p.Op == 2 && c != 0 || p.Op == 3 && c < 0 || p.Op == 4 && c <= 0 || p.Op == 5 && c > 0 || p.Op == 6 && c >= 0
	case p.Kind == 2:
		says = slices.ContainsFunc(p.List, func(w api.Value) bool { return order(v, w) == 0 })
	case p.Kind == 3:
		says = order(v, p.List[0]) >= 0 && order(v, p.List[1]) <= 0
	case p.Kind == 5:
		says = startsWith(v, p.Value)
	}
	if says {
		return api.Yes
	}
	return api.No
}

// A table is a table, cut by a layout, the records of its chunks, and the image of all.
type table struct {
	t     api.Table
	l     api.Layout
	zones [][]api.Zone
	im    *image.Image
}

// rows are those of a row group.
func (x table) rows(g int) [][]api.Value {
	from := 0
	for _, n := range x.l.Groups[:g] {
		from += n
	}
	return x.t.Rows[from : from+x.l.Groups[g]]
}

// mustAnswer holds Can and Skip of a row group to the plain reading, the predicate being one that may be.
func (x table) mustAnswer(t *testing.T, g int, p api.Pred, o api.Options) {
	t.Helper()
	n := x.l.Groups[g]
	want := ofPred(x.t.Columns, n, x.zones[g], p, o)
	if got, e := prune.Can(x.im, g, p, o); got != want || e != api.OK {
		t.Fatalf("Can of row group %d, %s, %v = %v, %d; want %v, the records being %s", g, brief(p), o, got, e, want, brief(x.zones[g]))
	}
	skip := n > 0 && (o.Zones || o.Blooms) && !want.Yes
	if got, e := prune.Skip(x.im, g, p, o); got != skip || e != api.OK {
		t.Fatalf("Skip of row group %d, %s, %v = %v, %d; want %v", g, brief(p), o, got, e, skip)
	}
}

// mustAnswerAll asks each row group, with all switches.
func (x table) mustAnswerAll(t *testing.T, p api.Pred) {
	t.Helper()
	for g := range x.l.Groups {
		for _, o := range switches() {
			x.mustAnswer(t, g, p, o)
		}
	}
}

func mustRefuse(t *testing.T, im *image.Image, g int, p api.Pred, want api.Errno) {
	t.Helper()
	for _, o := range switches() {
		if s, e := prune.Can(im, g, p, o); s != none || e != want {
			t.Fatalf("Can of row group %d, %s, %v: %v, %d; want error %d alone", g, brief(p), o, s, e, want)
		}
		if s, e := prune.Skip(im, g, p, o); s || e != want {
			t.Fatalf("Skip of row group %d, %s, %v: %v, %d; want error %d alone", g, brief(p), o, s, e, want)
		}
	}
}

// switches are all four ways in which the two that count can stand, each with others of those that do not.
func switches() []api.Options {
	return []api.Options{{}, {Zones: true}, {Blooms: true}, {Zones: true, Blooms: true}, {Reorder: true, Workers: 64}, {Zones: true, Reorder: true, Workers: -1}, {Blooms: true, Workers: 65}}
}

// byChance is a source of numbers, the same in each run.
func byChance(seed uint64) *rand.Rand { return rand.New(rand.NewPCG(26, seed)) }

func oneOf[T any](r *rand.Rand, l []T) T { return l[r.IntN(len(l))] }

// brief is a thing as text, cut where it is long.
func brief(v any) string {
	s := fmt.Sprintf("%v", v)
	if len(s) > 300 {
		s = s[:300] + ".."
	}
	return strings.ToValidUTF8(s, "?")
}

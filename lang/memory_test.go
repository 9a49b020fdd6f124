package lang_test

import (
	"runtime"
	"slices"
	"strings"
	"sync"
	"testing"

	"colonnade/api"
	"colonnade/lang"
)

// sentinel is a value that no sample has.
func sentinel() api.Value { return api.Value{Kind: 77, Int: 77, Text: "sentinel"} }

// roomyPred is the same predicate in other memory, each of its lists with room in which something stands.
func roomyPred(p api.Pred) api.Pred {
	values := append(slices.Clone(p.List), num(5), sentinel())
	var kids []api.Pred
	for _, k := range p.Kids {
		kids = append(kids, roomyPred(k))
	}
	kids = append(kids, isNull("sentinel"), null99())
	p.List, p.Kids = values[:len(p.List)], kids[:len(p.Kids)]
	return p
}

// roomy is the same of a query.
func roomy(q api.Query) api.Query {
	items := append(slices.Clone(q.Items), column("z"), api.Item{Kind: 77})
	group := append(slices.Clone(q.Group), "z", "")
	order := append(slices.Clone(q.Order), api.Key{Item: 99})
	q.Items, q.Group, q.Order, q.Where = items[:len(q.Items)], group[:len(q.Group)], order[:len(q.Order)], roomyPred(q.Where)
	return q
}

// wholePred is the same predicate with the room of its lists as a part of them, in the same memory or in another.
func wholePred(p api.Pred, copied bool) api.Pred {
	p.List, p.Kids = p.List[:cap(p.List)], p.Kids[:cap(p.Kids)]
	if copied {
		p.List = slices.Clone(p.List)
	}
	kids := slices.Clone(p.Kids)
	for i, k := range kids {
		kids[i] = wholePred(k, copied)
	}
	p.Kids = kids
	return p
}

func whole(q api.Query, copied bool) api.Query {
	q.Items, q.Group, q.Order, q.Where = q.Items[:cap(q.Items)], q.Group[:cap(q.Group)], q.Order[:cap(q.Order)], wholePred(q.Where, copied)
	if copied {
		q.Items, q.Group, q.Order = slices.Clone(q.Items), slices.Clone(q.Group), slices.Clone(q.Order)
	}
	return q
}

// TestP24_6Unchanged: Print changes nothing of what it is handed, nor looks at what stands behind its lists.
func TestP24_6Unchanged(t *testing.T) {
	r := byChance(13)
	for _, q := range samples(14, 2000) {
		for _, one := range []api.Query{q, spoiltQuery(r, q)} {
			given := roomy(one)
			was := whole(given, true)
			want, e := readPrint(one)
			mustPrint(t, given, want, e)
			if !sameQuery(whole(given, false), was) {
				t.Fatalf("Print has changed %s", brief(one))
			}
		}
	}
}

// met are the places of all elements of all lists, with their room; again is whether one was met before.
type met struct {
	places map[any]bool
	again  bool
}

func (m *met) add(place any) {
	m.again = m.again || m.places[place]
	m.places[place] = true
}

func (m *met) pred(p api.Pred) {
	for i := range p.List[:cap(p.List)] {
		m.add(&p.List[:cap(p.List)][i])
	}
	for i := range p.Kids[:cap(p.Kids)] {
		m.add(&p.Kids[:cap(p.Kids)][i])
		m.pred(p.Kids[:cap(p.Kids)][i])
	}
}

func (m *met) query(q api.Query) {
	for i := range q.Items[:cap(q.Items)] {
		m.add(&q.Items[:cap(q.Items)][i])
	}
	for i := range q.Group[:cap(q.Group)] {
		m.add(&q.Group[:cap(q.Group)][i])
	}
	for i := range q.Order[:cap(q.Order)] {
		m.add(&q.Order[:cap(q.Order)][i])
	}
	m.pred(q.Where)
}

// overwrite turns each element of each list, the room too.
func overwrite(q api.Query) {
	fill(q.Items, api.Item{Kind: 55, Column: "overwritten"})
	fill(q.Group, "overwritten")
	fill(q.Order, api.Key{Item: 55})
	overwritePred(q.Where)
}

func overwritePred(p api.Pred) {
	for _, k := range p.Kids[:cap(p.Kids)] {
		overwritePred(k)
	}
	fill(p.List, api.Value{Kind: 55})
	fill(p.Kids, api.Pred{Kind: 55, Column: "overwritten"})
}

func fill[T any](l []T, with T) {
	for i := range l[:cap(l)] {
		l[:cap(l)][i] = with
	}
}

// TestP24_6NewMemory: no two lists of an answer share any memory, nor do two answers.
func TestP24_6NewMemory(t *testing.T) {
	texts := sampleTexts()
	for _, q := range samples(15, 2000) {
		texts = append(texts, tellQuery(q))
	}
	texts = append(texts, "select a where "+strings.Repeat("a in (1, 2, 3) and ", 50)+"all", "select a where a in () or a in () or b in ()", "select a where (a in (1, 2) or a in (1, 2)) and (a in (1, 2) or a in (1, 2))")
	for _, text := range texts {
		one, _, e := lang.Parse(text)
		other, _, f := lang.Parse(text)
		if e != api.OK || f != api.OK {
			t.Fatalf("Parse(%s) = %d, %d", brief(text), e, f)
		}
		m := met{places: map[any]bool{}}
		m.query(one)
		m.query(other)
		if m.again {
			t.Fatalf("two lists of %s share memory", brief(text))
		}
		was := whole(other, true)
		overwrite(one)
		if !sameQuery(whole(other, false), was) {
			t.Fatalf("what was read of %s was written over, and another answer with it", brief(text))
		}
		mustParse(t, text, other, 0, api.OK)
	}
}

// heap is how many bytes are in use.
func heap() int {
	runtime.GC()
	var m runtime.MemStats
	runtime.ReadMemStats(&m)
	return int(m.HeapAlloc)
}

// TestP24_6NotKept: what is answered keeps nothing of the text that it was read of, so that texts of 64 KiB each cost no more than the names and texts in them.
func TestP24_6NotKept(t *testing.T) {
	for _, text := range []string{"select name", "select `by`", "select sum(name)", "select mean(`by`)", "select a where name is null", "select a where a = \"text\"", "select a where a in (\"text\", 1)", "select a where a between \"text\" and 1", "select a where a begins \"text\"", "select a group by name", "select a group by `by`"} {
		kept := make([]api.Query, 0, 500)
		before := heap()
		for range cap(kept) {
			q, _, e := lang.Parse(text + strings.Repeat(" ", api.MaxQuery-len(text)))
			if e != api.OK {
				t.Fatalf("Parse(%s) = %d", text, e)
			}
			kept = append(kept, q)
		}
		if more := heap() - before; more > 8<<20 {
			t.Fatalf("%d answers of %s keep %d bytes", len(kept), text, more)
		}
		runtime.KeepAlive(kept)
	}
	q := asking(column("name"))
	s, _ := lang.Print(q)
	q.Items[0].Column = "other"
	mustPrint(t, q, "select other", api.OK)
	q.Items[0].Column = "9"
	mustPrint(t, q, "", api.ErrQuery)
	if s != "select name" {
		t.Fatal(s)
	}
}

// TestP24_6BesideOneAnother: nothing is kept from call to call, so many may read and tell at once.
func TestP24_6BesideOneAnother(t *testing.T) {
	queries := samples(16, 200)
	var wait sync.WaitGroup
	for range 8 {
		wait.Go(func() {
			for _, q := range queries {
				s, e := lang.Print(q)
				o, at, f := lang.Parse(s)
				_, place, fault := lang.Parse(s + " $")
				if s != tellQuery(q) || e != api.OK || f != api.OK || at != 0 || !sameQuery(o, q) || fault != api.ErrToken || place != len(s)+1 {
					t.Errorf("%s was told as %s", brief(q), brief(s))
					return
				}
			}
		})
	}
	wait.Wait()
}

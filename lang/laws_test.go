package lang_test

import (
	"math/rand/v2"
	"slices"
	"strings"
	"testing"

	"colonnade/api"
	"colonnade/lang"
)

// words are tokens that may be written down in many ways.
type words struct {
	r   *rand.Rand
	out []string
}

func (w *words) put(l ...string) { w.out = append(w.out, l...) }

// name is in backquotes where it must be, and sometimes where it need not be.
func (w *words) name(s string) {
	if w.r.IntN(3) == 0 {
		s = "`" + s + "`"
	} else {
		s = tellName(s)
	}
	w.put(s)
}

func (w *words) item(it api.Item) {
	switch it.Kind {
	case api.ItemColumn:
		w.name(it.Column)
	case api.ItemRows:
		w.put("rows", "(", ")")
	default:
		w.put(foldNames[it.Kind-3], "(")
		w.name(it.Column)
		w.put(")")
	}
}

// pred has parentheses where it must have them, and sometimes some more.
func (w *words) pred(p api.Pred, within int) {
	n := max(0, w.r.IntN(5)-2)
	if n == 0 && strings.HasPrefix(tellPred(p, within), "(") {
		n = 1
	}
	w.put(slices.Repeat([]string{"("}, n)...)
	switch p.Kind {
	case api.PredAnd, api.PredOr:
		for i, k := range p.Kids {
			if i > 0 {
				w.put([]string{"and", "or"}[p.Kind-6])
			}
			w.pred(k, p.Kind)
		}
	case api.PredNot:
		w.put("not")
		w.pred(p.Kids[0], p.Kind)
	case api.PredAll:
		w.put("all")
	default:
		w.name(p.Column)
		w.atom(p)
	}
	w.put(slices.Repeat([]string{")"}, n)...)
}

func (w *words) atom(p api.Pred) {
	switch p.Kind {
	case api.PredCompare:
		w.put(opSigns[p.Op], tellValue(p.Value))
	case api.PredIn:
		w.put("in", "(")
		for i, v := range p.List {
			if i > 0 {
				w.put(",")
			}
			w.put(tellValue(v))
		}
		w.put(")")
	case api.PredBetween:
		w.put("between", tellValue(p.List[0]), "and", tellValue(p.List[1]))
	case api.PredNull:
		w.put("is", "null")
	case api.PredBegins:
		w.put("begins", tellValue(p.Value))
	}
}

func (w *words) query(q api.Query) {
	w.put("select")
	for i, it := range q.Items {
		if i > 0 {
			w.put(",")
		}
		w.item(it)
	}
	if q.Where.Kind != api.PredAll || w.r.IntN(3) == 0 {
		w.put("where")
		w.pred(q.Where, 0)
	}
	for i, name := range q.Group {
		w.put([][]string{{"group", "by"}, {","}}[min(i, 1)]...)
		w.name(name)
	}
	for i, k := range q.Order {
		w.put([][]string{{"order", "by"}, {","}}[min(i, 1)]...)
		w.put(strings.Fields(tellKey(k))...)
	}
	if q.Limit != -1 {
		w.put("limit", tellValue(num(int64(q.Limit))))
	}
}

// text has blanks where two tokens would else be one, and others by chance.
func (w *words) text() string {
	runs := func(b byte) bool { return isLetter(b) || isDigit(b) || b == '_' }
	s := ""
	for i, token := range w.out {
		n := max(0, w.r.IntN(5)-2)
		if i > 0 && n == 0 && runs(s[len(s)-1]) && runs(token[0]) {
			n = 1
		}
		for range n {
			s += oneOf(w.r, []string{" ", "\t", "\n"})
		}
		s += token
	}
	return s + strings.Repeat("\n", w.r.IntN(2))
}

// samples can be told; among them such as are as deep as may be.
func samples(seed uint64, n int) []api.Query {
	r := byChance(seed)
	var out []api.Query
	for range n {
		out = append(out, someQuery(r))
	}
	for _, p := range goodAtoms() {
		out = append(out, askingWhere(p), askingWhere(nots(63, p)), askingWhere(and(p, or(p, p))), askingWhere(or(and(p, p), not(and(p, p)), or(p, p))))
	}
	return out
}

// TestP24_3ThereAndBack: what is told is read as the query that was told.
func TestP24_3ThereAndBack(t *testing.T) {
	for _, q := range samples(5, 8000) {
		s, e := lang.Print(q)
		if e != api.OK {
			t.Fatalf("Print(%s) = %d", brief(q), e)
		}
		mustParse(t, s, q, 0, api.OK)
	}
}

// TestP24_3BackAndThere: what is read is told as a text that is read as the same and told as itself; it may be too long, as blanks are put where none were.
func TestP24_3BackAndThere(t *testing.T) {
	r := byChance(6)
	texts := append(sampleTexts(), "select a where a in ("+strings.Repeat("1,", 32000)+"1)", "select a where a<1"+strings.Repeat(" or a<1", 8000), "select a,"+strings.Repeat("b,", 30000)+"c")
	for range 5000 {
		texts = append(texts, strings.Join(strings.Fields(oneOf(r, sampleTexts())), oneOf(r, []string{" ", "\n", "  \t"})))
	}
	large := 0
	for _, text := range texts {
		q, _, e := lang.Parse(text)
		if e != api.OK {
			t.Fatalf("Parse(%s) = %d", brief(text), e)
		}
		s, e := lang.Print(q)
		if e == api.ErrLarge {
			large++
			if len(tellQuery(q)) <= 65536 {
				t.Fatalf("%s is told as too large", brief(text))
			}
			continue
		}
		mustParse(t, s, q, 0, e)
		mustPrint(t, q, s, api.OK)
	}
	if large != 3 {
		t.Fatalf("%d texts were too large", large)
	}
}

// TestP24_4Unlike: queries that are not the same have unlike texts.
func TestP24_4Unlike(t *testing.T) {
	r := byChance(7)
	told := map[string]api.Query{}
	for _, q := range samples(8, 8000) {
		for _, one := range []api.Query{q, spoiltQuery(r, q), spoiltQuery(r, q)} {
			s, e := lang.Print(one)
			if e != api.OK {
				continue
			}
			if was, met := told[s]; met && !sameQuery(was, one) {
				t.Fatalf("%s is the text of %s and of %s", brief(s), brief(was), brief(one))
			}
			told[s] = one
		}
	}
	if len(told) < 5000 {
		t.Fatalf("%d texts alone", len(told))
	}
}

// TestP24_4ManyWays: more blanks, parentheses and backquotes, or fewer blanks, change nothing that a text says.
func TestP24_4ManyWays(t *testing.T) {
	r := byChance(9)
	for _, q := range samples(10, 6000) {
		for range 2 {
			w := words{r: r}
			w.query(q)
			mustParse(t, w.text(), q, 0, api.OK)
		}
	}
}

// TestP24_4Parentheses: about the whole predicate, or about each of the Kids in it, as many as one likes.
func TestP24_4Parentheses(t *testing.T) {
	for _, p := range append(goodAtoms(), all, not(all), and(all, lessThree()), or(all, not(lessThree()), and(all, all))) {
		s := tellPred(p, 0)
		for _, n := range []int{1, 2, 3, 100} {
			open, shut := strings.Repeat("(", n), strings.Repeat(")", n)
			mustParse(t, "select a where "+open+s+shut, askingWhere(p), 0, api.OK)
			mustParse(t, "select a where not "+open+s+shut+" limit 1", api.Query{Items: []api.Item{column("a")}, Where: not(p), Limit: 1}, 0, api.OK)
			mustParse(t, "select a where "+open+"all and "+open+s+shut+" and "+open+s+shut+shut, askingWhere(and(all, p, p)), 0, api.OK)
			mustParse(t, "select a where "+open+s+shut+" or "+open+"all"+shut+" or"+open+s+shut, askingWhere(or(p, all, p)), 0, api.OK)
		}
	}
}

// TestP24_5Cut: a text that was told and then cut is read as another query, or refused, at a place in it.
func TestP24_5Cut(t *testing.T) {
	for i, q := range samples(11, 400) {
		s, e := lang.Print(q)
		if e != api.OK {
			t.Fatalf("Print(%s) = %d", brief(q), e)
		}
		for n := range len(s) {
			o, at, e := lang.Parse(s[:n])
			if e == api.OK && sameQuery(o, q) {
				t.Fatalf("%s, cut at %d, is still the same", brief(s), n)
			}
			if at < 0 || at > n || e == api.OK && at != 0 {
				t.Fatalf("Parse(%s) tells the place %d beside %d", brief(s[:n]), at, e)
			}
			if i%4 == 0 && len(s) < 300 {
				mustReadAs(t, s[:n])
			}
		}
	}
}

// TestP24_5Place: from 0 to the length of the text, whatever it is.
func TestP24_5Place(t *testing.T) {
	r := byChance(12)
	for range 20000 {
		b := []byte(oneOf(r, sampleTexts()))
		for range 1 + r.IntN(4) {
			b[r.IntN(len(b))] = byte(r.IntN(256))
		}
		b = b[:r.IntN(len(b)+1)]
		q, at, e := lang.Parse(string(b))
		if at < 0 || at > len(b) || (e == api.OK || e == api.ErrNest) && at != 0 || e != api.OK && !sameQuery(q, api.Query{}) {
			t.Fatalf("Parse(%s) = %s, %d, %d", brief(string(b)), brief(q), at, e)
		}
	}
}

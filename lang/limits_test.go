package lang_test

import (
	"slices"
	"strings"
	"testing"

	"colonnade/api"
	"colonnade/lang"
)

// TestP24_1Large: more than 65536 bytes are refused, whatever they are; so many are not.
func TestP24_1Large(t *testing.T) {
	for _, n := range []int{65535, 65536, 65537, 65538, 1 << 17, 1 << 20} {
		blanks, name := strings.Repeat(" ", n-8), strings.Repeat("x", n)
		texts := []string{"select a" + blanks, blanks + "select a", "select" + blanks + " a", strings.Repeat("(", n), strings.Repeat("$", n), name, strings.Repeat("\n", n), "select a where a = \"" + name[20:]}
		for i, text := range texts {
			switch {
			case len(text) != n:
				t.Fatalf("text %d has %d bytes", i, len(text))
			case n > 65536:
				mustRefuse(t, text, api.ErrLarge, 0)
			case i < 3:
				mustParse(t, text, asking(column("a")), 0, api.OK)
			default:
				if e := mustReadAs(t, text); e != api.ErrWord && e != api.ErrToken {
					t.Fatalf("text %d: %d", i, e)
				}
			}
		}
	}
}

// TestP24_1Nest: predicates may stand 64 deep; parentheses make none deeper.
func TestP24_1Nest(t *testing.T) {
	for n := 60; n <= 70; n++ {
		e := api.OK
		if n > 63 {
			e = api.ErrNest
		}
		for _, x := range []struct {
			text string
			p    api.Pred
		}{
			{strings.Repeat("not ", n) + "all", nots(n, all)},
			{strings.Repeat("not ", n) + "a < 3", nots(n, lessThree())},
			{strings.Repeat("not (", n) + "a < 3" + strings.Repeat(")", n), nots(n, lessThree())},
			{"all and " + strings.Repeat("not ", n-1) + "a < 3", and(all, nots(n-1, lessThree()))},
			{strings.Repeat("not ", n-1) + "a < 3 or all", or(nots(n-1, lessThree()), all)},
			{"all or all and " + strings.Repeat("not ", n-2) + "all or all", or(all, and(all, nots(n-2, all)), all)},
		} {
			q := askingWhere(x.p)
			if e != api.OK {
				q = api.Query{}
			}
			mustParse(t, "select a where "+x.text, q, 0, e)
		}
		p := all
		text := "all"
		for i := range n {
			p = api.Pred{Kind: 6 + i%2, Kids: []api.Pred{lessThree(), p}}
			text = "a < 3 " + []string{"and", "or"}[i%2] + " (" + text + ")"
		}
		q := askingWhere(p)
		if e != api.OK {
			q = api.Query{}
		}
		mustParse(t, "select a where "+text, q, 0, e)
	}
}

// TestP24_1Parentheses: as many as a text can have.
func TestP24_1Parentheses(t *testing.T) {
	for _, n := range []int{1, 64, 65, 1000, 32750} {
		open, shut := strings.Repeat("(", n), strings.Repeat(")", n)
		mustParse(t, "select a where "+open+"a < 3"+shut, askingWhere(lessThree()), 0, api.OK)
		mustRefuse(t, "select a where "+open+"a < 3"+shut[1:], api.ErrWord, 15+n+5+n-1)
		mustRefuse(t, "select a where "+open+"a < 3"+shut+")", api.ErrTrail, 15+n+5+n)
		mustRefuse(t, "select a where "+open, api.ErrWord, 15+n)
		mustRefuse(t, "select a where "+open+shut, api.ErrWord, 15+n)
	}
	for _, n := range []int{65, 1000, 13000} {
		mustRefuse(t, "select a where "+strings.Repeat("not ", n)+"all", api.ErrNest, 0)
		mustRefuse(t, "select a where "+strings.Repeat("not(", n)+"all"+strings.Repeat(")", n), api.ErrNest, 0)
		mustRefuse(t, "select a where "+strings.Repeat("not(", n)+"all"+strings.Repeat(")", n-1), api.ErrWord, 15+5*n+2)
		mustRefuse(t, "select a where "+strings.Repeat("not ", n), api.ErrWord, 15+4*n)
	}
	mustRefuse(t, "select a where "+strings.Repeat("(", 65521), api.ErrWord, 65536)
	mustRefuse(t, "select a where "+strings.Repeat("all or(", 9000)+"$", api.ErrToken, 15+63000)
	mustRefuse(t, "select a where "+strings.Repeat("all or(", 8000)+"all"+strings.Repeat(")", 8000), api.ErrNest, 0)
}

// TestP24_1Many: how many items, names, keys, values and predicates there are is not asked here.
func TestP24_1Many(t *testing.T) {
	q := asking(slices.Repeat([]api.Item{sum("a"), rows, column("by")}, 1000)...)
	mustBeBoth(t, "select "+strings.Join(slices.Repeat([]string{"sum(a), rows(), `by`"}, 1000), ", "), q)
	q = asking(rows)
	q.Group = slices.Repeat([]string{"a", "rows"}, 2000)
	q.Order = slices.Repeat([]api.Key{{Item: 63}, {Item: 0, Down: true}}, 2000)
	mustBeBoth(t, "select rows() group by "+strings.Join(q.Group, ", ")+" order by "+strings.Join(slices.Repeat([]string{"64, 1 down"}, 2000), ", "), q)
	mustBeBoth(t, "select a where a in ("+strings.Join(slices.Repeat([]string{"1"}, 20000), ", ")+")", askingWhere(in("a", slices.Repeat(list(num(1)), 20000)...)))
	mustBeBoth(t, "select a where "+strings.Join(slices.Repeat([]string{"all"}, 8000), " or "), askingWhere(or(slices.Repeat([]api.Pred{all}, 8000)...)))
	mustBeBoth(t, "select a where "+strings.Join(slices.Repeat([]string{"all"}, 8000), " and "), askingWhere(and(slices.Repeat([]api.Pred{all}, 8000)...)))
}

// withLength is a query of just so long a text, by what there is many of.
func withLength(sort string, n int) api.Query {
	q := asking(column("a"))
	switch sort {
	case "items":
		for n -= 8; n >= 60; n -= 3 {
			q.Items = append(q.Items, column("b"))
		}
		q.Items = append(q.Items, column(strings.Repeat("c", n-2)))
	case "text":
		q.Where = compared("a", api.Eq, word(strings.Repeat("x", n-len("select a where a = \"\""))))
	case "escaped":
		rest := n - len("select a where a begins \"\"")
		q.Where = begins("a", word(strings.Repeat("x", rest%4)+strings.Repeat("\x00", rest/4)))
	case "values":
		n -= len("select a where a in (1)")
		q.Where = in("a", num(1))
		for ; n >= 60; n -= 3 {
			q.Where.List = append(q.Where.List, num(5))
		}
		q.Where.List = append(q.Where.List, word(strings.Repeat("x", n-4)))
	case "limit":
		q.Limit = 5
		q.Where = compared("a", api.Eq, word(strings.Repeat("x", n-len("select a where a = \"\" limit 5"))))
	case "shut":
		q.Where = in("a", word(strings.Repeat("x", n-len("select a where a in (\"\")"))))
	case "down":
		q.Order = []api.Key{{Item: 0, Down: true}}
		q.Where = compared("a", api.Eq, word(strings.Repeat("x", n-len("select a where a = \"\" order by 1 down"))))
	case "group":
		q.Group = []string{"by"}
		q.Where = compared("a", api.Eq, word(strings.Repeat("x", n-len("select a where a = \"\" group by `by`"))))
	case "within":
		q.Where = not(or(all, compared("a", api.Eq, word(strings.Repeat("x", n-len("select a where not (all or a = \"\")"))))))
	}
	return q
}

// TestP24_2Large: a text of 65536 bytes is told, and a longer one is not, whatever makes it long.
func TestP24_2Large(t *testing.T) {
	for _, sort := range []string{"items", "text", "escaped", "values", "limit", "shut", "down", "group", "within"} {
		for n := 65520; n <= 65552; n++ {
			q := withLength(sort, n)
			want := tellQuery(q)
			if len(want) != n {
				t.Fatalf("%s: a text of %d bytes was to have %d", sort, len(want), n)
			}
			if n > 65536 {
				mustPrint(t, q, "", api.ErrLarge)
			} else {
				mustBeBoth(t, want, q)
			}
		}
	}
	long := word(strings.Repeat("\x00", 65535))
	for _, q := range []api.Query{askingWhere(compared("a", api.Eq, long)), askingWhere(begins("a", word(strings.Repeat("x", 65535)))), askingWhere(in("a", slices.Repeat(list(long), 1000)...)), askingWhere(and(slices.Repeat([]api.Pred{lessThree()}, 1<<20)...)), askingWhere(in("a", slices.Repeat(list(num(1)), 1<<20)...)), asking(slices.Repeat([]api.Item{rows}, 1<<20)...)} {
		mustPrint(t, q, "", api.ErrLarge)
		q.Limit = -2
		mustPrint(t, q, "", api.ErrQuery)
	}
	q := asking(rows)
	q.Group = slices.Repeat([]string{"a"}, 1<<20)
	mustPrint(t, q, "", api.ErrLarge)
	q.Group[1<<20-1] = ""
	mustPrint(t, q, "", api.ErrQuery)
	q = asking(rows)
	q.Order = make([]api.Key, 1<<20)
	mustPrint(t, q, "", api.ErrLarge)
	q.Order[1<<20-1].Item = 64
	mustPrint(t, q, "", api.ErrQuery)
}

// TestP24_2Nest: 64 deep is told, and 65 is ErrNest, whatever else is wrong with the query.
func TestP24_2Nest(t *testing.T) {
	bad := []api.Query{{}, {Items: []api.Item{column("9")}, Limit: -9}, {Items: []api.Item{rows}, Group: []string{""}, Order: []api.Key{{Item: -1}}}, asking(column("a"))}
	for n := 60; n <= 130; n++ {
		p := lessThree()
		for i := range n {
			p = api.Pred{Kind: 6 + i%2, Kids: []api.Pred{isNull("a"), p}}
		}
		for _, deep := range []api.Pred{nots(n, all), nots(n, lessThree()), p, and(nots(n-1, all), all), or(all, all, nots(n-1, api.Pred{Kind: 99})), not(all, nots(n-1, all)), nots(n-3, api.Pred{Kind: 99, Column: "9", Kids: []api.Pred{nots(2, null99())}}), nots(n-1, api.Pred{Kind: api.PredNull, Column: "a", Kids: []api.Pred{all}})} {
			for _, q := range bad {
				q.Where = deep
				want, e := readPrint(q)
				if n > 63 && e != api.ErrNest {
					t.Fatalf("the plain reading tells %d of %s", e, brief(q))
				}
				mustPrint(t, q, want, e)
			}
		}
		if n <= 63 {
			mustBeBoth(t, "select a where "+strings.Repeat("not ", n)+"a < 3", askingWhere(nots(n, lessThree())))
		}
	}
	for _, n := range []int{1000, 65535} {
		mustPrint(t, askingWhere(nots(n, all)), "", api.ErrNest)
		p := all
		for range n {
			p = and(all, p)
		}
		mustPrint(t, askingWhere(p), "", api.ErrNest)
	}
}

// null99 is a predicate of no Kind.
func null99() api.Pred { return api.Pred{Kind: 99} }

// TestP24_2Shared: lists that one predicate has at very many places are told like any others, and at once; also such as stand within themselves.
func TestP24_2Shared(t *testing.T) {
	double := func(n int, p api.Pred, kind int) api.Pred {
		for range n {
			p = api.Pred{Kind: kind, Kids: []api.Pred{p, p}}
		}
		return p
	}
	for _, kind := range []int{api.PredAnd, api.PredOr} {
		mustPrint(t, askingWhere(double(63, all, kind)), "", api.ErrLarge)
		mustPrint(t, askingWhere(double(63, api.Pred{Column: "x"}, kind)), "", api.ErrQuery)
		mustPrint(t, askingWhere(double(64, all, kind)), "", api.ErrNest)
		mustPrint(t, askingWhere(double(63, not(all), kind)), "", api.ErrNest)
		mustPrint(t, askingWhere(double(62, not(all), kind)), "", api.ErrLarge)
		mustPrint(t, asking(rows), "select rows()", api.OK)
		p := double(5, lessThree(), kind)
		mustPrint(t, askingWhere(p), tellQuery(askingWhere(p)), api.OK)
	}
	kids := []api.Pred{all, lessThree(), isNull("a"), api.Pred{Kind: 99}}
	several := or(api.Pred{Kind: 6, Kids: kids[:2]}, api.Pred{Kind: 7, Kids: kids[:3]}, api.Pred{Kind: 6, Kids: kids[1:3]}, api.Pred{Kind: 8, Kids: kids[:1]})
	mustBeBoth(t, "select a where all and a < 3 or (all or a < 3 or a is null) or a < 3 and a is null or not all", askingWhere(several))
	mustPrint(t, askingWhere(or(several, api.Pred{Kind: 6, Kids: kids[:4]})), "", api.ErrQuery)
	mustPrint(t, askingWhere(or(api.Pred{Kind: 6, Kids: kids[:4]}, several)), "", api.ErrQuery)
	for _, n := range []int{1, 2, 3} {
		endless := make([]api.Pred, n)
		for i := range endless {
			endless[i] = api.Pred{Kind: 6 + i, Kids: endless}
		}
		for _, e := range endless {
			mustPrint(t, askingWhere(e), "", api.ErrNest)
			mustPrint(t, api.Query{Where: and(all, all, nots(3, e))}, "", api.ErrNest)
		}
	}
	// What stands at one depth in one place, and deeper in another, must be held against the deeper one too.
	deep := []api.Pred{nots(40, all), all}
	for n := range 64 {
		p := or(api.Pred{Kind: 6, Kids: deep}, nots(n, api.Pred{Kind: 6, Kids: deep}))
		want, e := readPrint(askingWhere(p))
		mustPrint(t, askingWhere(p), want, e)
		if (e == api.ErrNest) != (n > 21) {
			t.Fatalf("%d deep: %d", n, e)
		}
	}
	if _, e := lang.Print(api.Query{Items: []api.Item{rows}, Where: api.Pred{Kind: api.PredAnd, Kids: deep}}); e != api.OK {
		t.Fatal(e)
	}
}

package lang_test

import (
	"testing"

	"colonnade/api"
)

// TestP24_1Examples: the chapter's, read.
func TestP24_1Examples(t *testing.T) {
	mustParse(t, "select a", asking(column("a")), 0, api.OK)
	mustParse(t, "select sum(b),rows() where a<3 or not c is null group by a order by 2 down limit 5", secondExample(), 0, api.OK)
	mustParse(t, "select a where (a = 1 and b in (\"x\", \"y\\x00\")) or all", thirdExample(), 0, api.OK)
	mustParse(t, "select `order` where a between -1 and 2 and b begins \"q\"", fourthExample(), 0, api.OK)
	for _, x := range []struct {
		text string
		e    api.Errno
		at   int
	}{
		{"", api.ErrWord, 0}, {"select", api.ErrWord, 6}, {"select a,", api.ErrWord, 9}, {"select a b", api.ErrTrail, 9}, {"select a $", api.ErrToken, 9}, {"select order", api.ErrWord, 7},
		{"select a where a = 007", api.ErrValue, 19}, {"select a where a = \"x", api.ErrToken, 19}, {"select a limit -1", api.ErrValue, 15}, {"select a order by 0", api.ErrValue, 18},
		{"select a where not (a = 1", api.ErrWord, 25}, {"select foo(a)", api.ErrTrail, 10}, {"select rows(a)", api.ErrWord, 12},
	} {
		mustRefuse(t, x.text, x.e, x.at)
	}
}

// TestP24_2Examples: the chapter's, told.
func TestP24_2Examples(t *testing.T) {
	mustPrint(t, secondExample(), "select sum(b), rows() where a < 3 or not c is null group by a order by 2 down limit 5", api.OK)
	mustPrint(t, thirdExample(), "select a where a = 1 and b in (\"x\", \"y\\x00\") or all", api.OK)
	mustPrint(t, fourthExample(), "select `order` where a between -1 and 2 and b begins \"q\"", api.OK)
	mustPrint(t, api.Query{}, "", api.ErrQuery)
	mustPrint(t, api.Query{Items: []api.Item{column("a")}, Limit: -2}, "", api.ErrQuery)
	mustPrint(t, api.Query{Items: []api.Item{column("a")}, Where: and(all)}, "", api.ErrQuery)
	mustPrint(t, askingWhere(and(all)), "", api.ErrQuery)
}

func secondExample() api.Query {
	return api.Query{
		Items: []api.Item{sum("b"), rows},
		Where: or(compared("a", api.Lt, num(3)), not(isNull("c"))),
		Group: []string{"a"},
		Order: []api.Key{{Item: 1, Down: true}},
		Limit: 5,
	}
}

func thirdExample() api.Query {
	return askingWhere(or(and(compared("a", api.Eq, num(1)), in("b", word("x"), word("y\x00"))), all))
}

func fourthExample() api.Query {
	q := asking(column("order"))
	q.Where = and(between("a", num(-1), num(2)), begins("b", word("q")))
	return q
}

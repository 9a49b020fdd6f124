package lang_test

import (
	"math"
	"strconv"
	"strings"
	"testing"

	"colonnade/api"
	"colonnade/lang"
)

// TestP24_1Rules: each rule of the language, each way through it.
func TestP24_1Rules(t *testing.T) {
	for _, x := range []struct {
		text string
		q    api.Query
	}{
		{"select a", asking(column("a"))},
		{"select a, b,c", asking(column("a"), column("b"), column("c"))},
		{"select rows(), count(a), sum(b), min(c), max(d), mean(e)", asking(rows, api.Item{Kind: 3, Column: "a"}, api.Item{Kind: 4, Column: "b"}, api.Item{Kind: 5, Column: "c"}, api.Item{Kind: 6, Column: "d"}, api.Item{Kind: 7, Column: "e"})},
		{"select rows, count, sum, min, max, mean", asking(column("rows"), column("count"), column("sum"), column("min"), column("max"), column("mean"))},
		{"select sum (sum), rows ( ), sum", asking(sum("sum"), rows, column("sum"))},
		{"select sum(`sum`), sum(`order`), `rows`", asking(sum("sum"), sum("order"), column("rows"))},
		{"select a where all", askingWhere(all)},
		{"select a where not all", askingWhere(not(all))},
		{"select a where not not a is null", askingWhere(not(not(isNull("a"))))},
		{"select a where a = 1", askingWhere(compared("a", api.Eq, num(1)))},
		{"select a where a <> 1", askingWhere(compared("a", api.Ne, num(1)))},
		{"select a where a < 1", askingWhere(compared("a", api.Lt, num(1)))},
		{"select a where a <= 1", askingWhere(compared("a", api.Le, num(1)))},
		{"select a where a > 1", askingWhere(compared("a", api.Gt, num(1)))},
		{"select a where a >= 1", askingWhere(compared("a", api.Ge, num(1)))},
		{"select a where a = \"1\"", askingWhere(compared("a", api.Eq, word("1")))},
		{"select a where a in ()", askingWhere(in("a"))},
		{"select a where a in (1)", askingWhere(in("a", num(1)))},
		{"select a where a in (3, \"x\", 3)", askingWhere(in("a", num(3), word("x"), num(3)))},
		{"select a where a between 2 and 1", askingWhere(between("a", num(2), num(1)))},
		{"select a where a between \"x\" and 1", askingWhere(between("a", word("x"), num(1)))},
		{"select a where a is null", askingWhere(isNull("a"))},
		{"select a where a begins \"\"", askingWhere(begins("a", word("")))},
		{"select a where a begins \"1\"", askingWhere(begins("a", word("1")))},
		{"select a where sum = 1 and rows in (1)", askingWhere(and(compared("sum", api.Eq, num(1)), in("rows", num(1))))},
		{"select a where `all` = 1 or `not` is null", askingWhere(or(compared("all", api.Eq, num(1)), isNull("not")))},
		{"select a group by b", api.Query{Items: []api.Item{column("a")}, Group: []string{"b"}, Limit: -1}},
		{"select a group by b, a, b, sum", api.Query{Items: []api.Item{column("a")}, Group: []string{"b", "a", "b", "sum"}, Limit: -1}},
		{"select a order by 1", api.Query{Items: []api.Item{column("a")}, Order: []api.Key{{Item: 0}}, Limit: -1}},
		{"select a order by 64 down, 1, 2 down, 2", api.Query{Items: []api.Item{column("a")}, Order: []api.Key{{Item: 63, Down: true}, {Item: 0}, {Item: 1, Down: true}, {Item: 1}}, Limit: -1}},
		{"select a limit 0", api.Query{Items: []api.Item{column("a")}, Limit: 0}},
		{"select a limit 9223372036854775807", api.Query{Items: []api.Item{column("a")}, Limit: math.MaxInt}},
		{"select a where all group by b order by 1 limit 2", api.Query{Items: []api.Item{column("a")}, Group: []string{"b"}, Order: []api.Key{{Item: 0}}, Limit: 2}},
	} {
		mustParse(t, x.text, x.q, 0, api.OK)
		mustReadAs(t, x.text)
	}
}

// TestP24_1Binding: not ahead of and, and ahead of or; parentheses alone make what stands deeper.
func TestP24_1Binding(t *testing.T) {
	a, b, c, d := isNull("a"), isNull("b"), isNull("c"), isNull("d")
	short := strings.NewReplacer("A", "a is null", "B", "b is null", "C", "c is null", "D", "d is null")
	for _, x := range []struct {
		text string
		p    api.Pred
	}{
		{"A and B", and(a, b)},
		{"A or B", or(a, b)},
		{"A and B and C and D", and(a, b, c, d)},
		{"A or B or C or D", or(a, b, c, d)},
		{"A and B or C", or(and(a, b), c)},
		{"A or B and C", or(a, and(b, c))},
		{"A and B or C and D", or(and(a, b), and(c, d))},
		{"A or B and C or D", or(a, and(b, c), d)},
		{"not A and B", and(not(a), b)},
		{"not A or B", or(not(a), b)},
		{"A and not B or not not C", or(and(a, not(b)), not(not(c)))},
		{"not (A and B)", not(and(a, b))},
		{"not (A or B) and C", and(not(or(a, b)), c)},
		{"(A and B) and C", and(and(a, b), c)},
		{"A and (B and C)", and(a, and(b, c))},
		{"(A or B) or C", or(or(a, b), c)},
		{"A or (B or C)", or(a, or(b, c))},
		{"A and (B or C) and D", and(a, or(b, c), d)},
		{"(A and B) or (C and D)", or(and(a, b), and(c, d))},
		{"(A)", a}, {"((A))", a}, {"(((A or B)))", or(a, b)}, {"((A) and (B))", and(a, b)},
		{"not (A)", not(a)}, {"not ((not (A)))", not(not(a))}, {"(not A)", not(a)}, {"(all)", all}, {"(all or A)", or(all, a)},
		{"A and a between 1 and 2 and B", and(a, between("a", num(1), num(2)), b)},
		{"a between 1 and 2 or A", or(between("a", num(1), num(2)), a)},
		{"not a between 1 and 2 and (A)", and(not(between("a", num(1), num(2))), a)},
		{"a in (1) and (b in ()) or A", or(and(in("a", num(1)), in("b")), a)},
	} {
		text := "select a where " + short.Replace(x.text)
		mustParse(t, text, askingWhere(x.p), 0, api.OK)
		mustReadAs(t, text)
	}
}

// TestP24_1Faults: each fault at the token at which it is first seen.
func TestP24_1Faults(t *testing.T) {
	for _, x := range []struct {
		text string
		e    api.Errno
		at   int
	}{
		{"", api.ErrWord, 0}, {" \n\t ", api.ErrWord, 4}, {"a", api.ErrWord, 0}, {"  a", api.ErrWord, 2}, {"`select` a", api.ErrWord, 0}, {"SELECT a", api.ErrWord, 0}, {"selecta", api.ErrWord, 0},
		{"select", api.ErrWord, 6}, {"select ", api.ErrWord, 7}, {"select,", api.ErrWord, 6}, {"select 1", api.ErrWord, 7}, {"select \"a\"", api.ErrWord, 7}, {"select where", api.ErrWord, 7}, {"select select", api.ErrWord, 7}, {"select all", api.ErrWord, 7}, {"select (a)", api.ErrWord, 7},
		{"select a,", api.ErrWord, 9}, {"select a, ", api.ErrWord, 10}, {"select a,,b", api.ErrWord, 9}, {"select a b", api.ErrTrail, 9}, {"select a `b`", api.ErrTrail, 9}, {"select a 1", api.ErrTrail, 9}, {"select a (", api.ErrTrail, 9}, {"select a select", api.ErrTrail, 9}, {"select a = 1", api.ErrTrail, 9}, {"select a by", api.ErrTrail, 9}, {"select a and", api.ErrTrail, 9}, {"select a down", api.ErrTrail, 9},
		{"select rows(", api.ErrWord, 12}, {"select rows(a)", api.ErrWord, 12}, {"select rows(()", api.ErrWord, 12}, {"select rows())", api.ErrTrail, 13}, {"select rows()()", api.ErrTrail, 13}, {"select rows() a", api.ErrTrail, 14}, {"select `rows`()", api.ErrTrail, 13}, {"select Rows()", api.ErrTrail, 11},
		{"select sum(", api.ErrWord, 11}, {"select sum()", api.ErrWord, 11}, {"select sum(1)", api.ErrWord, 11}, {"select sum(all)", api.ErrWord, 11}, {"select sum(a", api.ErrWord, 12}, {"select sum(a,b)", api.ErrWord, 12}, {"select sum(sum(a))", api.ErrWord, 14}, {"select sum(a) b", api.ErrTrail, 14}, {"select `sum`(a)", api.ErrTrail, 12}, {"select foo(a)", api.ErrTrail, 10}, {"select Sum(a)", api.ErrTrail, 10}, {"select summ(a)", api.ErrTrail, 11},
		{"select a where", api.ErrWord, 14}, {"select a where 1", api.ErrWord, 15}, {"select a where a", api.ErrWord, 16}, {"select a where a 1", api.ErrWord, 17}, {"select a where a b", api.ErrWord, 17}, {"select a where a and", api.ErrWord, 17}, {"select a where sum(a) = 1", api.ErrWord, 18}, {"select a where 1 = a", api.ErrWord, 15}, {"select a where where", api.ErrWord, 15}, {"select a where group", api.ErrWord, 15},
		{"select a where a =", api.ErrWord, 18}, {"select a where a = b", api.ErrWord, 19}, {"select a where a = null", api.ErrWord, 19}, {"select a where a = = 1", api.ErrWord, 19}, {"select a where a =< 1", api.ErrWord, 18}, {"select a where a == 1", api.ErrWord, 18}, {"select a where a < > 1", api.ErrWord, 19}, {"select a where a ( 1", api.ErrWord, 17}, {"select a where a , 1", api.ErrWord, 17}, {"select a where a ) 1", api.ErrWord, 17}, {"select a where a = 1 2", api.ErrTrail, 21}, {"select a where a = 1-2", api.ErrTrail, 20}, {"select a where a = 1 )", api.ErrTrail, 21}, {"select a where a = 1,", api.ErrTrail, 20}, {"select a where a = 1 where", api.ErrTrail, 21}, {"select a where a = (1)", api.ErrWord, 19},
		{"select a where a in", api.ErrWord, 19}, {"select a where a in 1", api.ErrWord, 20}, {"select a where a in (", api.ErrWord, 21}, {"select a where a in (,", api.ErrWord, 21}, {"select a where a in (1", api.ErrWord, 22}, {"select a where a in (1,", api.ErrWord, 23}, {"select a where a in (1,)", api.ErrWord, 23}, {"select a where a in (1 2)", api.ErrWord, 23}, {"select a where a in (b)", api.ErrWord, 21}, {"select a where a in ((1))", api.ErrWord, 21}, {"select a where a in () 1", api.ErrTrail, 23}, {"select a where a not in ()", api.ErrWord, 17},
		{"select a where a between", api.ErrWord, 24}, {"select a where a between 1", api.ErrWord, 26}, {"select a where a between 1 or 2", api.ErrWord, 27}, {"select a where a between 1, 2", api.ErrWord, 26}, {"select a where a between 1 and", api.ErrWord, 30}, {"select a where a between 1 and b", api.ErrWord, 31}, {"select a where a between 1 and 2 and", api.ErrWord, 36}, {"select a where a between and 1", api.ErrWord, 25}, {"select a where a between (1 and 2)", api.ErrWord, 25},
		{"select a where a is", api.ErrWord, 19}, {"select a where a is not null", api.ErrWord, 20}, {"select a where a is 1", api.ErrWord, 20}, {"select a where a is `null`", api.ErrWord, 20}, {"select a where a is null null", api.ErrTrail, 25}, {"select a where a begins", api.ErrWord, 23}, {"select a where a begins 1", api.ErrWord, 24}, {"select a where a begins b", api.ErrWord, 24}, {"select a where a begins (\"b\")", api.ErrWord, 24},
		{"select a where not", api.ErrWord, 18}, {"select a where not and", api.ErrWord, 19}, {"select a where ()", api.ErrWord, 16}, {"select a where (", api.ErrWord, 16}, {"select a where (all", api.ErrWord, 19}, {"select a where (all limit 1", api.ErrWord, 20}, {"select a where (all,", api.ErrWord, 19}, {"select a where ((all)", api.ErrWord, 21}, {"select a where (all))", api.ErrTrail, 20}, {"select a where all all", api.ErrTrail, 19}, {"select a where all = 1", api.ErrTrail, 19}, {"select a where all not", api.ErrTrail, 19}, {"select a where and all", api.ErrWord, 15}, {"select a where all and", api.ErrWord, 22}, {"select a where all or", api.ErrWord, 21}, {"select a where all or or all", api.ErrWord, 22}, {"select a where all and or all", api.ErrWord, 23}, {"select a where `all`", api.ErrWord, 20}, {"select a where (a) = 1", api.ErrWord, 17},
		{"select a group", api.ErrWord, 14}, {"select a group a", api.ErrWord, 15}, {"select a group by", api.ErrWord, 17}, {"select a group by 1", api.ErrWord, 18}, {"select a group by by", api.ErrWord, 18}, {"select a group by a,", api.ErrWord, 20}, {"select a group by a b", api.ErrTrail, 20}, {"select a group by a down", api.ErrTrail, 20}, {"select a group by sum(a)", api.ErrTrail, 21}, {"select a group by a where all", api.ErrTrail, 20}, {"select a group by a group by b", api.ErrTrail, 20}, {"select a group by (a)", api.ErrWord, 18},
		{"select a order", api.ErrWord, 14}, {"select a order 1", api.ErrWord, 15}, {"select a order by", api.ErrWord, 17}, {"select a order by a", api.ErrWord, 18}, {"select a order by \"1\"", api.ErrWord, 18}, {"select a order by down", api.ErrWord, 18}, {"select a order by 1,", api.ErrWord, 20}, {"select a order by 1 2", api.ErrTrail, 20}, {"select a order by 1 down down", api.ErrTrail, 25}, {"select a order by 1 `down`", api.ErrTrail, 20}, {"select a order by 1 order by 1", api.ErrTrail, 20}, {"select a order by 1 group by a", api.ErrTrail, 20}, {"select a order by 1 where all", api.ErrTrail, 20},
		{"select a limit", api.ErrWord, 14}, {"select a limit a", api.ErrWord, 15}, {"select a limit \"1\"", api.ErrWord, 15}, {"select a limit 1 2", api.ErrTrail, 17}, {"select a limit 1, 2", api.ErrTrail, 16}, {"select a limit 1 limit 2", api.ErrTrail, 17}, {"select a limit 1 order by 1", api.ErrTrail, 17}, {"select a limit 1 where all", api.ErrTrail, 17}, {"select a limit 1 down", api.ErrTrail, 17},
	} {
		mustRefuse(t, x.text, x.e, x.at)
		mustReadAs(t, x.text)
	}
}

// TestP24_1Values: numbers and texts that say no value, and keys and limits out of their bounds, at each place where one may stand.
func TestP24_1Values(t *testing.T) {
	for _, place := range []string{"a = ", "a <> ", "a >= ", "a in (", "a in (1, ", "a in (\"x\", ", "a between ", "a between 1 and ", "not (a = 1 or b < "} {
		text := "select a where " + place
		for _, bad := range []string{"007", "00", "-0", "-01", "9223372036854775808", "-9223372036854775809", "99999999999999999999", strings.Repeat("9", 400), `"\x41"`, `"\x0A"`, `"\n"`, `"\'"`, `"\x0"`, `"\x"`, `"\xzz"`, "\"\n\"", "\"\x00\"", "\"é\"", "\"\x7f\"", "\"\xff\"", `"\x7e"`, `"\x20"`, `"\x22"`, `"\x5c"`} {
			for _, behind := range []string{"", " ", ")", " $", " select", "\"x"} {
				mustRefuse(t, text+bad+behind, api.ErrValue, len(text))
			}
		}
	}
	for _, bad := range []string{`"\x41"`, "\"\n\"", `"\q"`} {
		mustRefuse(t, "select a where a begins "+bad, api.ErrValue, 24)
	}
	for i := -70; i <= 140; i++ {
		n := strconv.Itoa(i)
		for _, behind := range []string{"", " down", ", 1", " down, 1 limit 1"} {
			if i < 1 || i > 64 {
				mustRefuse(t, "select a order by "+n+behind, api.ErrValue, 18)
				mustRefuse(t, "select a order by 1, "+n+behind, api.ErrValue, 21)
			} else {
				q, at, e := lang.Parse("select a order by " + n + behind)
				if e != api.OK || at != 0 || q.Order[0].Item != i-1 || q.Order[0].Down != strings.HasPrefix(behind, " d") {
					t.Fatalf("order by %s%s: %v, %d, %d", n, behind, q, at, e)
				}
			}
		}
		if i < 0 {
			mustRefuse(t, "select a limit "+n, api.ErrValue, 15)
		} else {
			mustParse(t, "select a limit "+n, api.Query{Items: []api.Item{column("a")}, Limit: i}, 0, api.OK)
		}
	}
	for _, bad := range []string{"01", "00", "-0", "064", "9223372036854775808", "4294967297", "18446744073709551617", "-1", "65", "0", "-9223372036854775808"} {
		mustRefuse(t, "select a order by "+bad, api.ErrValue, 18)
	}
	for _, bad := range []string{"01", "00", "-0", "-1", "-9223372036854775808", "9223372036854775808", "18446744073709551615"} {
		mustRefuse(t, "select a limit "+bad, api.ErrValue, 15)
	}
}

// TestP24_1FirstFault: of several faults that of the first token, whatever stands behind it.
func TestP24_1FirstFault(t *testing.T) {
	for _, x := range []struct {
		text string
		e    api.Errno
		at   int
	}{
		{"select a limit -1 $", api.ErrValue, 15}, {"select a limit -1$", api.ErrValue, 15}, {"select a limit 1 $", api.ErrToken, 17}, {"select a limit $ -1", api.ErrToken, 15},
		{"select a b $", api.ErrTrail, 9}, {"select a $ b", api.ErrToken, 9}, {"select , $", api.ErrWord, 7}, {"select $ ,", api.ErrToken, 7}, {"$", api.ErrToken, 0}, {"  $", api.ErrToken, 2}, {"a $", api.ErrWord, 0},
		{"select a where a = 007 or", api.ErrValue, 19}, {"select a where a = 007 $", api.ErrValue, 19}, {"select a order by 65 65", api.ErrValue, 18}, {"select a where a = 1 b = 007", api.ErrTrail, 21}, {"select a where (a = 1 b = 007", api.ErrWord, 22},
		{"select a where a = \"x", api.ErrToken, 19}, {"select a \"x", api.ErrToken, 9}, {"select \"x", api.ErrToken, 7}, {"select a where a begins 007", api.ErrWord, 24}, {"select 007", api.ErrWord, 7}, {"select a 007", api.ErrTrail, 9}, {"select a \"\\x41\"", api.ErrTrail, 9},
		{"select a where " + strings.Repeat("not ", 64) + "a = 007", api.ErrValue, 15 + 256 + 4}, {"select a where " + strings.Repeat("not ", 64), api.ErrWord, 15 + 256}, {"select a where " + strings.Repeat("not ", 64) + "all b", api.ErrTrail, 15 + 256 + 4}, {"select a where " + strings.Repeat("not ", 64) + "$", api.ErrToken, 15 + 256},
	} {
		mustRefuse(t, x.text, x.e, x.at)
		mustReadAs(t, x.text)
	}
}

// TestP24_1EveryToken: behind each beginning of the samples each token is put, in the place of the next one, and ahead of it; what is answered is what the plain reading does.
func TestP24_1EveryToken(t *testing.T) {
	counts := map[api.Errno]int{}
	for _, text := range sampleTexts() {
		tokens := allTokens(text)
		for i, here := range tokens {
			for _, other := range sampleTokens() {
				counts[mustReadAs(t, text[:here.at]+" "+other)]++
				if i%2 == len(text)%2 {
					counts[mustReadAs(t, text[:here.at]+other+" "+text[here.at+len(here.s):])]++
				}
				if i%3 == len(text)%3 {
					counts[mustReadAs(t, text[:here.at]+other+" "+text[here.at:])]++
				}
			}
			counts[mustReadAs(t, text[:here.at]+text[here.at+len(here.s):])]++
			counts[mustReadAs(t, text[:here.at])]++
		}
	}
	for _, e := range []api.Errno{api.OK, api.ErrValue, api.ErrToken, api.ErrWord, api.ErrTrail} {
		if counts[e] < 100 {
			t.Fatalf("error %d was met %d times alone", e, counts[e])
		}
	}
}

// TestP24_1AnyTokens: tokens of whatever sort, one behind the other.
func TestP24_1AnyTokens(t *testing.T) {
	r := byChance(1)
	for range 3000 {
		text := "select a where "
		for range 1 + r.IntN(12) {
			text += oneOf(r, []string{"a", "a", "=", "1", "\"x\"", "and", "or", "not", "(", ")", "all", "in", ",", "is null", "between 1 and 2", "begins \"\"", "limit", "group by", "order by"}) + " "
		}
		mustReadAs(t, text)
	}
}

// TestP24_1AnyBytes: texts with a byte off anywhere, and such as have been cut and put together.
func TestP24_1AnyBytes(t *testing.T) {
	r := byChance(2)
	texts := sampleTexts()
	bytes := []byte(" \t\n\r\"\\`()=<>,-0129azAZ_$\x00\x0b\x0c\xa0\xff")
	for range 6000 {
		text := oneOf(r, texts)
		at := r.IntN(len(text) + 1)
		b := string([]byte{oneOf(r, bytes)})
		if r.IntN(4) == 0 {
			b = string([]byte{byte(r.IntN(256))})
		}
		switch r.IntN(4) {
		case 0:
			text = text[:at] + b + text[at:]
		case 1:
			text = text[:at] + b + text[min(len(text), at+1):]
		case 2:
			text = text[:at] + text[min(len(text), at+1+r.IntN(3)):]
		case 3:
			text = text[:at] + oneOf(r, texts)[min(7, at):]
		}
		mustReadAs(t, text)
	}
	for range 2000 {
		b := make([]byte, r.IntN(40))
		for i := range b {
			b[i] = byte(r.IntN(256))
		}
		mustReadAs(t, string(b))
		mustReadAs(t, "select a where a = "+string(b))
	}
}

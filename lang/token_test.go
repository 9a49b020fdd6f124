package lang_test

import (
	"slices"
	"strconv"
	"strings"
	"testing"

	"colonnade/api"
)

func isLetter(b byte) bool { return 'a' <= b && b <= 'z' || 'A' <= b && b <= 'Z' }

func isDigit(b byte) bool { return '0' <= b && b <= '9' }

// eachByte calls with each of the 256 bytes, and with it as a text.
func eachByte(call func(b byte, s string)) {
	for b := range 256 {
		call(byte(b), string([]byte{byte(b)}))
	}
}

// TestP24_1Blanks: blanks, tabs and line ends alone may stand ahead of tokens, between them and behind the last one, any number of them.
func TestP24_1Blanks(t *testing.T) {
	eachByte(func(b byte, s string) {
		if strings.Contains(" \t\n", s) {
			for _, text := range []string{s + "select a", "select" + s + "a", "select a" + s, s + s + "select" + s + " " + s + "a" + s + s} {
				mustParse(t, text, asking(column("a")), 0, api.OK)
			}
			mustRefuse(t, s, api.ErrWord, 1)
			mustRefuse(t, "select"+s, api.ErrWord, 7)
			mustParse(t, "select a where a"+s+"in"+s+"("+s+"1"+s+","+s+"2"+s+")"+s, askingWhere(in("a", num(1), num(2))), 0, api.OK)
			mustParse(t, "select sum"+s+"("+s+"b"+s+")"+s+","+s+"rows"+s+"("+s+")"+s, asking(sum("b"), rows), 0, api.OK)
			mustRefuse(t, "select a where a <"+s+"> 1", api.ErrWord, 19)
			mustRefuse(t, "select a limit -"+s+"1", api.ErrToken, 15)
			mustRefuse(t, "select `a"+s+"`", api.ErrToken, 7)
			mustRefuse(t, "sel"+s+"ect a", api.ErrWord, 0)
			return
		}
		mustReadAs(t, s+"select a")
		mustReadAs(t, "select a"+s)
		mustReadAs(t, "select"+s+"a")
		if !isLetter(b) && !isDigit(b) && b != '_' && !strings.Contains("(),=<>", s) {
			mustRefuse(t, s+"select a", api.ErrToken, 0)
			mustRefuse(t, "select a"+s, api.ErrToken, 8)
			mustRefuse(t, "select a "+s+" b", api.ErrToken, 9)
		}
	})
}

// TestP24_1Names: which bytes a word has, at its beginning and behind it, with backquotes and without.
func TestP24_1Names(t *testing.T) {
	eachByte(func(b byte, s string) {
		for _, name := range []string{s, s + "a", s + "9"} {
			if isLetter(b) {
				mustParse(t, "select "+name, asking(column(name)), 0, api.OK)
				mustParse(t, "select `"+name+"`", asking(column(name)), 0, api.OK)
				continue
			}
			mustReadAs(t, "select "+name)
			if b != '`' {
				mustRefuse(t, "select `"+name+"`", api.ErrToken, 7)
			}
		}
		for _, name := range []string{"a" + s, "a" + s + "b", "x9_" + s + "_"} {
			if isLetter(b) || isDigit(b) || b == '_' {
				mustParse(t, "select "+name, asking(column(name)), 0, api.OK)
				mustParse(t, "select `"+name+"`", asking(column(name)), 0, api.OK)
				continue
			}
			mustReadAs(t, "select "+name)
			mustReadAs(t, "select `"+name+"`")
			if b != '`' {
				mustRefuse(t, "select `"+name+"`", api.ErrToken, 7)
			}
		}
	})
	for _, name := range goodNames() {
		mustParse(t, "select `"+name+"`", asking(column(name)), 0, api.OK)
		if !slices.Contains(wordsOfLanguage, name) {
			mustParse(t, "select "+name, asking(column(name)), 0, api.OK)
		}
	}
	for _, text := range []string{"``", "`", "`a", "`a b`", "` a`", "`a `", "`9`", "`_`", "`a-b`", "`sum(a)`", "`é`", "\"a", "'a'"} {
		mustRefuse(t, "select "+text, api.ErrToken, 7)
	}
	mustRefuse(t, "select `a``b`", api.ErrTrail, 10)
	mustRefuse(t, "select `a`b", api.ErrTrail, 10)
	mustRefuse(t, "select a`b`", api.ErrTrail, 8)
	mustRefuse(t, "select a`b", api.ErrToken, 8)
}

// TestP24_1NameLength: from 1 to 64 bytes; a longer word is no token, wherever it stands, nor is a longer name in backquotes.
func TestP24_1NameLength(t *testing.T) {
	for n := 1; n <= 200; n++ {
		name := strings.Repeat("n", n)
		for _, x := range []struct{ ahead, behind string }{
			{"select ", ""}, {"select a, ", ", b"}, {"select sum(", ")"}, {"select a group by ", ""}, {"select a where ", " is null"}, {"", ""}, {"select a ", ""}, {"select a where a ", " 1"}, {"select a limit 1 ", ""},
		} {
			for _, quote := range []string{"", "`"} {
				text := x.ahead + quote + name + quote + x.behind
				if n > 64 {
					mustRefuse(t, text, api.ErrToken, len(x.ahead))
				} else {
					mustReadAs(t, text)
				}
			}
		}
		if n <= 64 {
			mustParse(t, "select "+name, asking(column(name)), 0, api.OK)
			mustParse(t, "select sum(`"+name+"`)", asking(sum(name)), 0, api.OK)
		}
	}
}

// TestP24_1Words: each word of the language is one just as it is written; with a letter more, less or great it is a name, and so it is in backquotes.
func TestP24_1Words(t *testing.T) {
	for _, w := range wordsOfLanguage {
		mustRefuse(t, "select "+w, api.ErrWord, 7)
		mustParse(t, "select `"+w+"`", asking(column(w)), 0, api.OK)
		for _, name := range []string{strings.ToUpper(w), strings.ToUpper(w[:1]) + w[1:], w + "s", "x" + w, w + "_", w + "1", w[:1]} {
			mustParse(t, "select "+name, asking(column(name)), 0, api.OK)
		}
		for _, text := range sampleTexts() {
			for _, here := range allTokens(text) {
				if here.isOne(w) {
					for _, other := range []string{"`" + w + "`", strings.ToUpper(w), w + "s"} {
						if e := mustReadAs(t, text[:here.at]+other+text[here.at+len(w):]); e == api.OK {
							t.Fatalf("%s may stand for %s", other, w)
						}
					}
				}
			}
		}
	}
	for _, name := range append(slices.Clone(foldNames), "rows") {
		mustParse(t, "select "+name, asking(column(name)), 0, api.OK)
		mustParse(t, "select `"+name+"`", asking(column(name)), 0, api.OK)
		mustParse(t, "select a where "+name+" is null", askingWhere(isNull(name)), 0, api.OK)
	}
}

// TestP24_1Numbers: digits, with a minus straight ahead of them or without.
func TestP24_1Numbers(t *testing.T) {
	for _, v := range goodValues() {
		if v.Kind == api.Int {
			mustParse(t, "select a where a ="+strconv.FormatInt(v.Int, 10), askingWhere(compared("a", api.Eq, v)), 0, api.OK)
		}
	}
	const ahead = "select a where a="
	for _, x := range []struct {
		text string
		e    api.Errno
		at   int
	}{
		{"-", api.ErrToken, 0}, {"- 1", api.ErrToken, 0}, {"--1", api.ErrToken, 0}, {"-a", api.ErrToken, 0}, {"-\"1\"", api.ErrToken, 0}, {"+1", api.ErrToken, 0}, {".5", api.ErrToken, 0},
		{"1-", api.ErrToken, 1}, {"1.5", api.ErrToken, 1}, {"1_0", api.ErrToken, 1}, {"1+1", api.ErrToken, 1}, {"1-1", api.ErrTrail, 1}, {"-1-1", api.ErrTrail, 2}, {"1e5", api.ErrTrail, 1}, {"1a", api.ErrTrail, 1}, {"0x1f", api.ErrTrail, 1}, {"1 1", api.ErrTrail, 2}, {"1\"x\"", api.ErrTrail, 1},
	} {
		mustRefuse(t, ahead+x.text, x.e, len(ahead)+x.at)
	}
	mustParse(t, ahead+"1and all", askingWhere(and(compared("a", api.Eq, num(1)), all)), 0, api.OK)
	mustParse(t, ahead+"-1or`a`<-2limit 3", api.Query{Items: []api.Item{column("a")}, Where: or(compared("a", api.Eq, num(-1)), compared("a", api.Lt, num(-2))), Limit: 3}, 0, api.OK)
	eachByte(func(b byte, s string) {
		mustReadAs(t, ahead+s+"1")
		mustReadAs(t, ahead+"1"+s)
		mustReadAs(t, ahead+"-"+s)
	})
}

// TestP24_1Texts: from a quote to the next one that no backslash takes along.
func TestP24_1Texts(t *testing.T) {
	const ahead = "select a where a="
	for _, v := range goodValues() {
		if v.Kind == api.Text {
			mustParse(t, ahead+tellValue(v), askingWhere(compared("a", api.Eq, v)), 0, api.OK)
			mustParse(t, ahead+tellValue(v)+"and all", askingWhere(and(compared("a", api.Eq, v), all)), 0, api.OK)
		}
	}
	for _, x := range []struct {
		text string
		e    api.Errno
		at   int
	}{
		{`"`, api.ErrToken, 0}, {`"x`, api.ErrToken, 0}, {`"\"`, api.ErrToken, 0}, {`"x\"`, api.ErrToken, 0}, {`"\`, api.ErrToken, 0}, {`"\\\"`, api.ErrToken, 0}, {`"\\\\\"`, api.ErrToken, 0}, {`"x" "`, api.ErrToken, 4}, {`"""`, api.ErrToken, 2}, {`"\\""`, api.ErrToken, 4},
		{`""""`, api.ErrTrail, 2}, {`"x""y"`, api.ErrTrail, 3}, {`"x"y`, api.ErrTrail, 3}, {`"\\"\`, api.ErrToken, 4}, {`\"x"`, api.ErrToken, 0}, {`"x"1`, api.ErrTrail, 3}, {`"x" "\`, api.ErrToken, 4},
		{`"\a"`, api.ErrValue, 0}, {`"\x4"`, api.ErrValue, 0}, {`"\x\"`, api.ErrToken, 0}, {`"\x\""`, api.ErrValue, 0}, {`"\x\\"`, api.ErrValue, 0}, {"\"\\\x00\"", api.ErrValue, 0}, {"\"\\\n\"", api.ErrValue, 0}, {"\"a\nb\"", api.ErrValue, 0},
	} {
		mustRefuse(t, ahead+x.text, x.e, len(ahead)+x.at)
	}
	eachByte(func(b byte, s string) {
		for _, text := range []string{`"` + s + `"`, `"a` + s + `b"`, `"\` + s + `"`, `"\` + s, `"\x` + s + `0"`, `"\x0` + s + `"`, `"\\` + s + `"`} {
			mustReadAs(t, ahead+text)
			mustReadAs(t, ahead+text+`"`)
		}
		mustParse(t, ahead+tellValue(word(s)), askingWhere(compared("a", api.Eq, word(s))), 0, api.OK)
		mustParse(t, ahead+tellValue(word("x"+s+s)), askingWhere(compared("a", api.Eq, word("x"+s+s))), 0, api.OK)
		if b != '"' && b != '\\' {
			at := strings.IndexByte(ahead, '=') + 1
			e := api.ErrValue
			if 32 <= b && b <= 126 {
				e = api.OK
			}
			q, _, _ := readParse(ahead + `"` + s + `"`)
			mustParse(t, ahead+`"`+s+`"`, q, map[api.Errno]int{api.ErrValue: at}[e], e)
		}
	})
}

// TestP24_1Signs: the longer ones first, and none but these.
func TestP24_1Signs(t *testing.T) {
	for op, sign := range opSigns[1:] {
		for _, blank := range []string{"", " ", "\n"} {
			mustParse(t, "select a where a"+blank+sign+blank+"1", askingWhere(compared("a", op+1, num(1))), 0, api.OK)
			mustParse(t, "select a where a"+blank+sign+blank+"\"1\"", askingWhere(compared("a", op+1, word("1"))), 0, api.OK)
			mustParse(t, "select a where `a`"+blank+sign+blank+"-1", askingWhere(compared("a", op+1, num(-1))), 0, api.OK)
		}
		for _, other := range opSigns[1:] {
			mustReadAs(t, "select a where a "+sign+other+" 1")
			mustReadAs(t, "select a where a "+sign+" "+other+" 1")
		}
	}
	for _, x := range []struct {
		text string
		e    api.Errno
		at   int
	}{
		{"=<", api.ErrWord, 1}, {"=>", api.ErrWord, 1}, {"><", api.ErrWord, 1}, {"<<", api.ErrWord, 1}, {"<>=", api.ErrWord, 2}, {"<=>", api.ErrWord, 2}, {"<==", api.ErrWord, 2}, {"== ", api.ErrWord, 1}, {"!=", api.ErrToken, 0}, {"=!", api.ErrToken, 1}, {"<!", api.ErrToken, 1}, {";", api.ErrToken, 0}, {"<;", api.ErrToken, 1},
	} {
		mustRefuse(t, "select a where a"+x.text+"1", x.e, 16+x.at)
	}
	eachByte(func(b byte, s string) {
		for _, sign := range opSigns[1:] {
			mustReadAs(t, "select a where a "+sign+s+"1")
			mustReadAs(t, "select a where a "+s+sign+"1")
		}
	})
}

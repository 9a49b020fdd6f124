package schema_test

import (
	"bytes"
	"fmt"
	"math"
	"math/rand/v2"
	"slices"
	"strings"

	"colonnade/api"
)

// The bytes of names, written out.
const (
	letters = "abcdefghijklmnopqrstuvwxyzABCDEFGHIJKLMNOPQRSTUVWXYZ"
	inner   = letters + "0123456789_"
)

func whole(name string) api.Column { return api.Column{Name: name, Type: api.Int} }
func words(name string) api.Column { return api.Column{Name: name, Type: api.Text} }

func nullable(c api.Column) api.Column {
	c.Null = true
	return c
}

func list(l ...api.Column) []api.Column { return l }

// some are so many columns that may be, of all four kinds in turn, their names all as long.
func some(n, long int) []api.Column {
	l := make([]api.Column, n)
	for i := range l {
		name := strings.Repeat("x", long) + fmt.Sprintf("%03d", i)
		l[i] = api.Column{Name: "c" + name[len(name)-long+1:], Type: 1 + i%2, Null: i%4 > 1}
	}
	return l
}

// plainIsName asks for each byte whether it is one of those that are written out.
func plainIsName(s string) bool {
	if len(s) < 1 || len(s) > 64 || strings.IndexByte(letters, s[0]) < 0 {
		return false
	}
	for i := range len(s) {
		if strings.IndexByte(inner, s[i]) < 0 {
			return false
		}
	}
	return true
}

// plainMayBe holds every two names against each other.
func plainMayBe(l []api.Column) bool {
	if len(l) < 1 || len(l) > 256 {
		return false
	}
	for i, c := range l {
		if !plainIsName(c.Name) || c.Type != 1 && c.Type != 2 {
			return false
		}
		for _, d := range l[:i] {
			if c.Name == d.Name {
				return false
			}
		}
	}
	return true
}

// plainShort is the short form of a number, by dividing.
func plainShort(n uint64) []byte {
	var b []byte
	for n >= 128 {
		b = append(b, byte(n%128+128))
		n /= 128
	}
	return append(b, byte(n))
}

// plainForm writes columns down, whether they may be or not; of their Types the lowest byte.
func plainForm(l []api.Column) []byte {
	b := plainShort(uint64(len(l)))
	for _, c := range l {
		b = append(b, plainShort(uint64(len(c.Name)))...)
		b = append(b, c.Name...)
		mark := c.Type
		if c.Null {
			mark += 4
		}
		b = append(b, byte(mark))
	}
	return b
}

// plainTake guesses the columns that may stand in some bytes, and takes them only if they may be and their form is just these bytes.
func plainTake(b []byte) ([]api.Column, bool) {
	l, ok := guess(b)
	if !ok || !plainMayBe(l) || !bytes.Equal(plainForm(l), b) {
		return nil, false
	}
	return l, true
}

// guess reads 256 as it stands, every other number of columns and every length of a name as one byte.
func guess(b []byte) ([]api.Column, bool) {
	if len(b) == 0 {
		return nil, false
	}
	n, rest := int(b[0]), b[1:]
	if n >= 128 && len(rest) > 0 {
		n, rest = n-128+128*int(rest[0]), rest[1:]
	}
	var l []api.Column
	for range n {
		if len(rest) == 0 || len(rest) < 2+int(rest[0]) {
			return nil, false
		}
		long := int(rest[0])
		mark := int(rest[1+long])
		c := api.Column{Name: string(rest[1 : 1+long]), Type: mark}
		if mark > 4 {
			c.Type, c.Null = mark-4, true
		}
		l, rest = append(l, c), rest[2+long:]
	}
	return l, true
}

// goodLists are lists of columns that may be: ordinary ones, and those at the ends of what may be.
func goodLists() [][]api.Column {
	long := strings.Repeat("N", 64)
	out := [][]api.Column{
		list(whole("a")), list(words("a")), list(nullable(whole("a"))), list(nullable(words("a"))),
		list(whole("z")), list(whole("A")), list(words("Z")), list(whole("A"), whole("a")), list(whole("a"), words("A"), whole("aA"), whole("Aa")),
		list(whole("a"), nullable(words("b2"))), list(whole("id"), nullable(words("name"))),
		list(words("a_1Z")), list(words("a_")), list(words("a0"), words("a9"), words("a00"), words("a_0")), list(whole("z__________9")),
		list(whole(long)), list(nullable(words(long)), whole(long[:63]), whole(long[:1]), whole(long[:63]+"M"), whole("M"+long[:63])),
		list(whole(letters)), list(whole(inner)),
		some(2, 4), some(127, 4), some(128, 4), some(129, 4), some(255, 4), some(256, 4), some(256, 64), some(100, 64),
	}
	r := byChance(1)
	for range 60 {
		out = append(out, someColumns(r, 1+r.IntN(9)))
	}
	return out
}

// badNames are names that may not be.
func badNames() []string {
	out := []string{
		"", "_", "_a", "9", "9a", "0", "1_", " ", " a", "a ", "a b", "a-b", "a.b", "a,b", "a\"", "\"a\"", "a\x00", "\x00", "\x00a", "a\n", "\ta", "a\xff", "\xff", "\x80a", "a\x80",
		"\u00e9", "a\u00e9", "\u00e9a", "\u00c4", "a\u00df", "\uff41", "a\uff21", "a\uff11", "a\u0663", "a_\u00e9", "\u0430", "a\u0430", "\u212a", "a\u212a", "\u017f", "a\u00aa", "a\u00ba", "\u0131", "a\u200b", "\ufeffa", "a@", "a[", "a`", "a{", "a/", "a:", "a^", "@a", "[a", "`a", "{a", "/a", ":a", "^a",
	}
	for _, n := range []int{65, 66, 127, 128, 129, 255, 256, 257, 320, 65535, 65536, 65537, 65600, 1 << 20} {
		out = append(out, strings.Repeat("x", n))
	}
	for i := range 64 {
		name := []byte(strings.Repeat("x", 64))
		name[i] = '-'
		out = append(out, string(name))
	}
	return out
}

// badTypes are those that no column has.
func badTypes() []int {
	return []int{0, 3, 4, 5, 6, 7, 8, 9, 10, -1, -2, -3, -4, 127, 128, 129, 130, 254, 255, 256, 257, 258, 261, 262, 1<<16 + 1, 1<<32 + 1, 1<<32 + 2, math.MinInt, math.MinInt + 1, math.MinInt + 2, math.MaxInt, math.MaxInt - 1}
}

// badLists are lists of columns that may not be, for one cause each.
func badLists() [][]api.Column {
	out := [][]api.Column{nil, {}, make([]api.Column, 0, 5), some(257, 4), some(258, 4), some(384, 4), some(512, 4), some(513, 4), some(1000, 5), {{}}, make([]api.Column, 256), make([]api.Column, 257)}
	for _, name := range badNames() {
		out = append(out, list(whole(name)), list(nullable(words(name))), list(whole("a"), whole(name)), list(whole(name), whole("b")), list(whole("a"), words(name), whole("b")))
	}
	for _, kind := range badTypes() {
		c := api.Column{Name: "c", Type: kind}
		out = append(out, list(c), list(nullable(c)), list(whole("a"), c), list(c, whole("b")), list(whole("a"), nullable(c), whole("b")))
	}
	for i, c := range list(whole("a"), nullable(whole("a")), words("a"), nullable(words("a"))) {
		out = append(out, list(whole("a"), c), list(c, words("a")), list(whole("b"), c, whole("a")), list(c, whole("b"), words("a")), list(c, c, c))
		twice := some(256, 4)
		twice[7*i].Name = twice[255-i].Name
		out = append(out, twice)
	}
	return out
}

func byChance(seed uint64) *rand.Rand { return rand.New(rand.NewPCG(15, seed)) }

func someBytes(r *rand.Rand, n int) []byte {
	b := make([]byte, n)
	for i := range b {
		b[i] = byte(r.Uint32())
	}
	return b
}

// someName is a name that may be, by chance: mostly short, so that others are near to it.
func someName(r *rand.Rand) string {
	n := 1 + r.IntN(3)
	if r.IntN(6) == 0 {
		n = 1 + r.IntN(64)
	}
	b := []byte{letters[r.IntN(len(letters))]}
	for len(b) < n {
		b = append(b, inner[r.IntN(len(inner))])
	}
	return string(b)
}

// someColumns are at most n columns that may be, by chance.
func someColumns(r *rand.Rand, n int) []api.Column {
	var l []api.Column
	for range n {
		c := api.Column{Name: someName(r), Type: 1 + r.IntN(2), Null: r.IntN(2) == 0}
		if !slices.ContainsFunc(l, func(d api.Column) bool { return d.Name == c.Name }) {
			l = append(l, c)
		}
	}
	return l
}

// brief is a value as a text of no great length.
func brief(v any) string {
	s := fmt.Sprintf("%q", fmt.Sprint(v))
	if len(s) > 200 {
		return s[:200] + ".."
	}
	return s
}

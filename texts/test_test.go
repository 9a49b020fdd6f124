package texts_test

import (
	"fmt"
	"slices"
	"strings"
	"testing"

	"colonnade/api"
	"colonnade/chunk"
	"colonnade/texts"
)

// TestP20_2EveryAtom: every sort of atom against every codec, of all lists.
func TestP20_2EveryAtom(t *testing.T) {
	for _, l := range allLists() {
		chunks := chunksOf(t, withNulls, l)
		for _, p := range atomsFor(l) {
			mustSay(t, chunks, l, p)
		}
	}
}

// TestP20_2NoNulls: a column in which nulls may not stand.
func TestP20_2NoNulls(t *testing.T) {
	for _, l := range denseLists() {
		chunks := chunksOf(t, noNulls, l)
		for _, p := range atomsFor(l) {
			mustSay(t, chunks, l, p)
		}
	}
}

// TestP20_2Beginnings: such as every text has, as some have, and as none has.
func TestP20_2Beginnings(t *testing.T) {
	l := slices.Concat([]api.Value{null}, words("abx", "ab", "abc", "abx", "ab\xff", "ab\x00"), []api.Value{null, null})
	for _, x := range []struct {
		begin string
		yes   uint64
	}{
		{"", 0b1111110}, {"a", 0b1111110}, {"ab", 0b1111110},
		{"abx", 0b10010}, {"abc", 0b1000}, {"ab\xff", 0b100000}, {"ab\x00", 0b1000000},
		{"abxx", 0}, {"aa", 0}, {"ac", 0}, {"b", 0}, {"\x00", 0}, {"\xff", 0}, {"ab\xff\xff", 0}, {"abd", 0}, {"AB", 0},
	} {
		for _, ch := range chunksOf(t, withNulls, l) {
			yes, maybe, e := texts.Test(ch, begins(x.begin))
			if e != api.OK {
				t.Fatalf("%q by %v: %d", x.begin, ch.Codec(), e)
			}
			mustBe(t, fmt.Sprintf("%q", x.begin), yes, 9, []uint64{x.yes})
			mustBe(t, fmt.Sprintf("%q", x.begin), maybe, 9, []uint64{0b110000001})
		}
	}
}

// TestP20_2LongTexts: texts of as many bytes as they may have, which differ in their last bytes alone.
func TestP20_2LongTexts(t *testing.T) {
	long := strings.Repeat("x", api.MaxText)
	last := func(s string) string { return long[:len(long)-len(s)] + s }
	l := append(words(long, last("y"), last("\x00"), long[:65534], last("yx"), last("y"), "", "x", long), null)
	constants := []string{"", "x", "y", long, last("y"), last("w"), last("\x00"), last("\xff"), last("yx"), last("yy"), long[:65534], long[:65533], long[:30000], long[:30000] + "y"}
	chunks := chunksOf(t, withNulls, l)
	for i, c := range constants {
		for _, op := range ops() {
			mustSay(t, chunks, l, compared(op, c))
		}
		mustSay(t, chunks, l, begins(c))
		mustSay(t, chunks, l, in(c, constants[(i+5)%len(constants)]))
		mustSay(t, chunks, l, between(c, constants[(i+3)%len(constants)]))
	}
	mustSay(t, chunks, l, in(constants...))
	for _, ch := range chunks {
		mustRefuse(t, ch, begins(long+"x"), api.ErrValue)
		mustRefuse(t, ch, compared(api.Eq, long+"x"), api.ErrValue)
		mustRefuse(t, ch, in("x", long+"x"), api.ErrValue)
		mustRefuse(t, ch, between("x", long+"x"), api.ErrValue)
	}
}

// TestP20_2AllKeys: a dictionary of as many keys as it may have, of one fewer, and of those around which a code gets wider.
func TestP20_2AllKeys(t *testing.T) {
	for _, n := range []int{api.MaxDict, api.MaxDict - 1, 256, 257, 2, 1} {
		l := make([]api.Value, n)
		for i := range l {
			l[(i*7919+5)%n] = word(fmt.Sprintf("k%05d", 2*i+1))
		}
		chunks := []*chunk.Chunk{opened(t, noNulls, l, api.Dict)}
		end := fmt.Sprintf("k%05d", 2*n-1)
		for _, c := range []string{"", "k", "k00000", "k00001", "k000010", "k00002", "k00003", "k0000", "k001", "k1", end[:5], end, end + "\x00", end + "\xff", "k99999x", "l", "\xff"} {
			for _, op := range ops() {
				mustSay(t, chunks, l, compared(op, c))
			}
			mustSay(t, chunks, l, begins(c))
			mustSay(t, chunks, l, between("k00001", c))
			mustSay(t, chunks, l, between(c, end))
			mustSay(t, chunks, l, in(end, c, "k00001"))
		}
	}
}

// TestP20_2AllRows: as many values as a chunk may have: "ab", all of them, or all but the last one, which is "b".
func TestP20_2AllRows(t *testing.T) {
	for _, x := range []struct {
		b    []byte
		want int
	}{
		{[]byte{3, 0, 0, 1, 128, 128, 128, 8, 2, 97, 98}, api.MaxRows},
		{[]byte{3, 0, 0, 2, 255, 255, 255, 7, 2, 97, 98, 1, 1, 98}, api.MaxRows - 1},
		{[]byte{2, 0, 0, 1, 0, 0, 0, 0, 2, 0, 0, 0, 97, 98}, api.MaxRows},
	} {
		ch, e := chunk.Open(noNulls, api.MaxRows, x.b)
		if e != api.OK {
			t.Fatal(x.b, e)
		}
		yes, maybe, e := texts.Test(ch, begins("a"))
		if e != api.OK || yes.Len() != api.MaxRows || yes.Count() != x.want || yes.Rank(x.want) != x.want || maybe.Len() != api.MaxRows || maybe.Count() != 0 {
			t.Fatalf("%v: %d of %d, maybe %d, %d", x.b, yes.Count(), yes.Len(), maybe.Count(), e)
		}
	}
}

// TestP20_2LongLists: lists of as many values as there may be, of whatever order, against many values.
func TestP20_2LongLists(t *testing.T) {
	r := byChance(3)
	l := make([]api.Value, 3000)
	for i := range l {
		if r.IntN(9) > 0 {
			l[i] = word(fmt.Sprint(r.IntN(4000)))
		}
	}
	chunks := chunksOf(t, withNulls, l)
	for _, n := range []int{31, 32, 33, 34, 65, 1023, 1024} {
		list := make([]string, n)
		for i := range list {
			list[i] = fmt.Sprint(r.IntN(5000))
		}
		mustSay(t, chunks, l, in(list...))
		slices.Sort(list)
		mustSay(t, chunks, l, in(list...))
		mustSay(t, chunks, l, in(reversed(list)...))
	}
}

// TestP20_2WholeList: each value of a list counts, the first and the last too, if it has as many as it may have, and all of them are there.
func TestP20_2WholeList(t *testing.T) {
	all := numbered(api.MaxList + 6)
	l := words(all...)
	slices.Sort(all)
	chunks := chunksOf(t, noNulls, l)
	mustSay(t, chunks, l, in(all[3:api.MaxList+3]...))
	mustSay(t, chunks, l, in(reversed(all[3:api.MaxList+3])...))
}

// TestP20_2NotThere: of a chunk that is not there nothing is asked, whatever the predicate.
func TestP20_2NotThere(t *testing.T) {
	for _, ch := range []*chunk.Chunk{nil, {}, new(chunk.Chunk)} {
		for _, p := range slices.Concat([]api.Pred{{}, isNull(), in(), {Kind: api.PredIn}, {Kind: api.PredNull}, {Kind: -1}}, atomsFor(words(""))) {
			mustRefuse(t, ch, p, api.ErrNil)
		}
		for _, kind := range kinds() {
			for _, f := range faultsOf(kind) {
				p := faultless(kind)
				f.in(&p)
				mustRefuse(t, ch, p, api.ErrNil)
			}
		}
	}
}

// TestP20_2Numbers: a chunk of numbers is refused ahead of whatever is wrong with the predicate.
func TestP20_2Numbers(t *testing.T) {
	for _, l := range [][]api.Value{nil, {null}, {num(5), null, num(6)}} {
		for _, c := range chunk.Fit(ofNumbers, l) {
			b, _ := chunk.Encode(ofNumbers, l, c)
			ch, e := chunk.Open(ofNumbers, len(l), b)
			if e != api.OK {
				t.Fatal(l, c, e)
			}
			for _, p := range []api.Pred{
				{}, isNull(), in(), in("a"), between("a", "b"), compared(api.Eq, "a"), begins("a"),
				{Kind: api.PredCompare, Column: "t", Op: api.Eq, Value: num(5)},
				{Kind: api.PredIn, Column: "t", List: []api.Value{num(5)}},
				{Kind: api.PredNull, Column: "u"}, {Kind: api.PredNull, Column: "t", Op: 1}, {Kind: api.PredIn, Column: "t", List: make([]api.Value, 1025)},
			} {
				mustRefuse(t, ch, p, api.ErrOp)
			}
		}
	}
}

// TestP20_2Names: the one column is the chunk's, by whatever name it has.
func TestP20_2Names(t *testing.T) {
	names := []string{"t", "", "T", "tt", "a b", "\x00", "\xff"}
	for _, name := range names {
		col := api.Column{Name: name, Type: api.Text, Null: true}
		ch := opened(t, col, []api.Value{word("a"), null}, api.Plain)
		for _, other := range names {
			p := compared(api.Eq, "a")
			p.Column = other
			if other != name {
				mustRefuse(t, ch, p, api.ErrColumn)
				continue
			}
			yes, maybe, e := texts.Test(ch, p)
			if e != api.OK {
				t.Fatalf("%q: %d", name, e)
			}
			mustBe(t, name, yes, 2, []uint64{1})
			mustBe(t, name, maybe, 2, []uint64{2})
		}
	}
}

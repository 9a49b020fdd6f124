package logic_test

import (
	"math"
	"slices"
	"strings"
	"testing"

	"colonnade/api"
	"colonnade/image"
	"colonnade/logic"
)

// noGroups are numbers that no row group has, if there are n.
func noGroups(n int) []int {
	return []int{math.MinInt, -1 << 32, -n - 1, -2, -1, n, n + 1, 1 << 32, 1<<32 + n, math.MaxInt}
}

// TestP25_1NotThere: an image that is not there, whatever else is wrong.
func TestP25_1NotThere(t *testing.T) {
	var zero image.Image
	for _, im := range []*image.Image{nil, {}, new(image.Image), &zero} {
		for _, g := range append(noGroups(1), 0) {
			for _, p := range []api.Pred{all, isNull("a"), and(), compared("a", 7, null), {Kind: 9}, nots(64, all)} {
				mustRefuse(t, im, g, p, api.ErrNil)
			}
		}
	}
}

// TestP25_1Group: numbers of no row group, ahead of what is wrong with the predicate; of an image without row groups every number is one.
func TestP25_1Group(t *testing.T) {
	tab := someTable(byChance(1), fourColumns(), 4)
	for _, cut := range [][]int{{4}, {1, 3}, {0, 2, 0, 2, 0}} {
		x := mustImage(t, tab, plainLayout(tab, cut...))
		for _, p := range []api.Pred{all, isNull("a"), and(), compared("z", 7, null), {Kind: 9}, nots(64, all)} {
			for _, g := range noGroups(len(cut)) {
				mustRefuse(t, x.im, g, p, api.ErrArg)
			}
		}
	}
	none := api.Table{Columns: fourColumns()}
	x := mustImage(t, none, plainLayout(none))
	for _, g := range append(noGroups(0), 0) {
		mustRefuse(t, x.im, g, all, api.ErrArg)
		mustRefuse(t, x.im, g, and(), api.ErrArg)
	}
}

// TestP25_1Wrong: predicates that may not be, at the head or within, also where no row is or what is ahead of the fault would settle it.
func TestP25_1Wrong(t *testing.T) {
	tab := someTable(byChance(2), fourColumns(), 5)
	x := mustImage(t, tab, plainLayout(tab, 3, 0, 2))
	for _, p := range badPreds() {
		for g := range x.l.Groups {
			mustRefuse(t, x.im, g, p, api.ErrQuery)
		}
	}
	for _, p := range append(goodAtoms(), all) {
		for _, q := range []api.Pred{p, not(p), and(p, all), or(p, p, all), not(and(all, or(all, not(p))))} {
			x.mustAnswerAll(t, q)
		}
	}
}

// TestP25_1Columns: an atom's column is one of the image's, and has its type there.
func TestP25_1Columns(t *testing.T) {
	for _, cols := range [][]api.Column{{{Name: "x", Type: api.Int}}, {{Name: "x", Type: api.Text}}, {{Name: "X", Type: api.Int}, {Name: "y", Type: api.Text, Null: true}}, {{Name: "y", Type: api.Int, Null: true}, {Name: "x", Type: api.Text}}} {
		tab := someTable(byChance(3), cols, 7)
		x := mustImage(t, tab, plainLayout(tab, 7))
		for _, name := range []string{"x", "X", "y", "xy", ""} {
			for _, p := range []api.Pred{isNull(name), in(name), compared(name, api.Le, num(2)), compared(name, api.Le, word("b")), begins(name, word("b")), between(name, num(1), num(2)), in(name, word("a"))} {
				if predMayBe(cols, p) {
					x.mustAnswer(t, 0, p)
				} else {
					mustRefuse(t, x.im, 0, p, api.ErrQuery)
				}
			}
		}
	}
}

// TestP25_1Nest: 64 deep and one more, by whichever Kinds, at the first kid or the last.
func TestP25_1Nest(t *testing.T) {
	tab := someTable(byChance(4), fourColumns(), 9)
	x := mustImage(t, tab, plainLayout(tab, 9, 0))
	about := []func(p api.Pred) api.Pred{
		func(p api.Pred) api.Pred { return not(p) },
		func(p api.Pred) api.Pred { return and(p, isNull("s")) },
		func(p api.Pred) api.Pred { return or(compared("n", api.Lt, num(2)), p) },
	}
	for _, wrap := range about {
		p := compared("a", api.Gt, num(1))
		for deep := 1; deep <= 70; deep++ {
			if deep <= 64 {
				x.mustAnswerAll(t, p)
			} else {
				mustRefuse(t, x.im, 0, p, api.ErrQuery)
				mustRefuse(t, x.im, 1, p, api.ErrQuery)
			}
			p = wrap(p)
		}
	}
}

// TestP25_1Preds: 4096 predicates and one more, each counted, also such as would not be asked.
func TestP25_1Preds(t *testing.T) {
	tab := someTable(byChance(5), fourColumns(), 3)
	x := mustImage(t, tab, plainLayout(tab, 3, 0))
	many := slices.Repeat([]api.Pred{compared("a", api.Gt, num(9))}, 4096)
	turned := slices.Repeat([]api.Pred{not(isNull("n"))}, 2048)
	for _, p := range []api.Pred{and(many[:4095]...), or(many[:4095]...), and(append(slices.Clone(turned[:2047]), all)...), or(all, or(many[:4093]...))} {
		x.mustAnswerAll(t, p)
	}
	for _, p := range []api.Pred{and(many...), or(many...), and(turned...), or(all, or(many[:4094]...)), not(and(many[:4095]...))} {
		mustRefuse(t, x.im, 0, p, api.ErrQuery)
		mustRefuse(t, x.im, 1, p, api.ErrQuery)
	}
}

// TestP25_1Lists: 1024 values in a list and one more; texts of 65535 bytes and of one more.
func TestP25_1Lists(t *testing.T) {
	long := strings.Repeat("x", 65535)
	tab := api.Table{Columns: fourColumns(), Rows: [][]api.Value{list(num(7), word(long), num(1), word(long)), list(null, word(long[1:]), num(2), null)}}
	x := mustImage(t, tab, plainLayout(tab, 2))
	numbers, words := slices.Repeat(list(num(3)), 1023), slices.Repeat(list(word("q")), 1023)
	for _, p := range []api.Pred{in("a", append(numbers, num(7))...), in("t", append(words, word(long))...), compared("s", api.Eq, word(long)), begins("t", word(long)), between("t", word(long), word(long))} {
		x.mustAnswer(t, 0, p)
		x.mustAnswer(t, 0, not(p))
	}
	for _, p := range []api.Pred{in("a", append(numbers, num(7), num(7))...), in("t", append(words, word(long), word(""))...), compared("s", api.Eq, word(long+"x")), begins("t", word(long+"x"))} {
		mustRefuse(t, x.im, 0, p, api.ErrQuery)
		mustRefuse(t, x.im, 0, or(all, p), api.ErrQuery)
	}
}

// TestP25_1NoRows: of a row group without rows two sets of length 0, and nothing is opened.
func TestP25_1NoRows(t *testing.T) {
	r := byChance(6)
	tab := someTable(r, fourColumns(), 6)
	for _, cut := range [][]int{{0, 6}, {6, 0}, {3, 0, 0, 3}, {0, 0, 6, 0}} {
		x := mustImage(t, tab, plainLayout(tab, cut...))
		for range 200 {
			p := somePred(r, fourColumns(), 1+r.IntN(5))
			for g, n := range cut {
				if n > 0 {
					continue
				}
				yes, unknown, opened, e := logic.Where(x.im, g, p)
				if e != api.OK || yes == nil || unknown == nil || yes.Len() != 0 || unknown.Len() != 0 || len(opened) != 0 {
					t.Fatalf("%s of no rows: %v, %v, %v, %d", brief(p), yes, unknown, opened, e)
				}
			}
		}
	}
}

// TestP25_1ByChance: both sets and the chunks that are opened, as the plain reading has it.
func TestP25_1ByChance(t *testing.T) {
	r := byChance(7)
	for _, x := range someTables(t, 7, 3) {
		for range 150 {
			x.mustAnswerAll(t, somePred(r, fourColumns(), 1+r.IntN(6)))
		}
	}
}

// TestP25_1Own: each row group is asked by itself: what one came to, and what was opened of it, says nothing of another.
func TestP25_1Own(t *testing.T) {
	tab := api.Table{Columns: []api.Column{{Name: "a", Type: api.Int, Null: true}, {Name: "t", Type: api.Text}}}
	for i := range 40 {
		row := list(num(int64(i)), word(string(rune('A'+i))))
		if i%10 == 9 {
			row[0] = null
		}
		tab.Rows = append(tab.Rows, row)
	}
	x := mustImage(t, tab, plainLayout(tab, 4, 6, 0, 10, 1, 9, 10))
	for i := range int64(41) {
		for _, p := range []api.Pred{and(compared("a", api.Lt, num(i)), compared("t", api.Ge, word("D"))), or(compared("a", api.Ge, num(i)), begins("t", word("F"))), and(compared("t", api.Lt, word(string(rune('A'+i)))), isNull("a"))} {
			x.mustAnswerAll(t, p)
			x.mustAnswerAll(t, not(p))
		}
	}
}

// TestP25_1Large: as many rows as there may be in one row group.
func TestP25_1Large(t *testing.T) {
	tab := api.Table{Columns: []api.Column{{Name: "a", Type: api.Int, Null: true}, {Name: "t", Type: api.Text}}}
	for i := range api.MaxCells / 2 {
		row := list(num(int64(i/1000)), word(string(rune('a'+i/70000))))
		if i%17 == 3 {
			row[0] = null
		}
		tab.Rows = append(tab.Rows, row)
	}
	n := len(tab.Rows)
	x := mustImage(t, tab, fittingLayout(byChance(8), tab, n))
	x.mustAnswer(t, 0, or(and(compared("a", api.Gt, num(100)), begins("t", word("c"))), not(compared("a", api.Ne, num(7)))))
	x.mustAnswer(t, 0, and(compared("t", api.Lt, word("a")), isNull("a")))
	x.mustAnswer(t, 0, all)
}

package agg_test

import (
	"slices"
	"strings"
	"testing"

	"colonnade/agg"
	"colonnade/api"
	"colonnade/bits"
	"colonnade/chunk"
	"colonnade/sel"
	"colonnade/wide"
)

// TestP22_1None: the state of no rows is the zero value.
func TestP22_1None(t *testing.T) {
	s := agg.None()
	if s != (agg.State{}) || s.Rows != 0 || s.Count != 0 || s.Sum != wide.Of(0) || s.Min.Kind != api.Null || s.Max.Kind != api.Null {
		t.Errorf("None() = %v", s)
	}
}

// TestP22_2Fold: of lists of every sort, by every codec, with rows chosen in every way, the state is the plain reading's.
func TestP22_2Fold(t *testing.T) {
	for _, x := range samples() {
		all := chunksOf(t, x.col, x.list, someWidths()...)
		if len(all) == 0 {
			t.Fatalf("no chunks of %s", brief(x.list))
		}
		for _, s := range selections(t, len(x.list)) {
			mustFold(t, all, x.list, s)
		}
	}
}

// TestP22_2Codecs: every kind of body is among the chunks of these tests.
func TestP22_2Codecs(t *testing.T) {
	met := map[api.Codec]int{}
	for _, x := range samples() {
		for _, ch := range chunksOf(t, x.col, x.list, someWidths()...) {
			met[api.Codec{Kind: ch.Codec().Kind, Width: x.col.Type}]++
		}
	}
	for _, c := range []api.Codec{{Kind: api.Plain, Width: api.Int}, {Kind: api.Dict, Width: api.Int}, {Kind: api.Runs, Width: api.Int}, {Kind: api.Frame, Width: api.Int}, {Kind: api.Packed, Width: api.Int}, {Kind: api.Plain, Width: api.Text}, {Kind: api.Dict, Width: api.Text}, {Kind: api.Runs, Width: api.Text}} {
		if met[c] < 50 {
			t.Errorf("%d chunks of the kind %d, type %d", met[c], c.Kind, c.Width)
		}
	}
}

// TestP22_2EveryWidth: lanes of every width, chosen whole and in part.
func TestP22_2EveryWidth(t *testing.T) {
	for _, l := range [][]api.Value{nums(5), nums(0, 1), nums(0, 0, 0), nums(7, 5, 6, 5), upTo(-3, 1, 70), nums(greatest, greatest-3), {num(2), null, num(3)}, nums(least, greatest, -1), {null, null}} {
		all := chunksOf(t, numbers, l, everyWidth()...)
		for _, s := range selections(t, len(l)) {
			mustFold(t, all, l, s)
		}
	}
}

// TestP22_2ByChance: of lists and selections by chance.
func TestP22_2ByChance(t *testing.T) {
	r := byChance(1)
	for _, n := range []int{1, 2, 3, 5, 8, 9, 17, 31, 63, 64, 65, 127, 128, 129, 200, 500} {
		for range 60 {
			kind := oneOf(r, []int{api.Int, api.Int, api.Text})
			l := someValues(r, kind, n)
			all := chunksOf(t, columnOf(kind), l, someWidths()...)
			for range 12 {
				mustFold(t, all, l, someSelection(t, r, n))
			}
		}
	}
}

// TestP22_2EverySelection: of few rows, every choice among them.
func TestP22_2EverySelection(t *testing.T) {
	for _, x := range []sample{
		{numbers, []api.Value{num(5), null, num(7), num(5), num(5), null, num(-1), num(9)}},
		{numbers, []api.Value{null, num(greatest), num(greatest), null, num(least), num(greatest), num(0), num(least)}},
		{allNumbers, nums(3, 3, 3, 1, 1, 2, 4, 4)},
		{textsOrNone, []api.Value{word("b"), word("b"), null, word(""), word("ab"), word("ab"), null, word("b")}},
	} {
		all := chunksOf(t, x.col, x.list, someWidths()...)
		for m := range 1 << len(x.list) {
			for _, s := range selected(t, len(x.list), func(i int) bool { return m>>i&1 == 1 }) {
				mustFold(t, all, x.list, s)
			}
		}
	}
}

// TestP22_2Long: a sum far behind 64 bits, and very many runs, nulls and keys, each gone through once.
func TestP22_2Long(t *testing.T) {
	const n = 1 << 18
	edges, mixed, few := make([]api.Value, n), make([]api.Value, n), make([]api.Value, n)
	for i := range n {
		edges[i] = num(greatest - int64(i%2))
		if i%3 != 0 {
			mixed[i] = num(int64(i*7919%50000) - 25000)
		}
		if i%5000 == 17 {
			few[i] = num(least)
		}
	}
	for _, l := range [][]api.Value{edges, mixed, few, slices.Repeat(nums(least), n)} {
		all := chunksOf(t, numbers, l, 64)
		for _, pick := range []func(i int) bool{func(int) bool { return true }, func(i int) bool { return i%4 != 1 }, func(i int) bool { return i%1000 == 1 }} {
			for _, s := range selected(t, n, pick) {
				mustFold(t, all, l, s)
			}
		}
	}
}

// TestP22_2MaxRows: as many rows as there may be.
func TestP22_2MaxRows(t *testing.T) {
	b := []byte{api.Runs, 0, 0, 1, 0x80, 0x80, 0x80, 0x08, 10} // one run: 2^24 times 5
	ch, e := chunk.Open(allNumbers, api.MaxRows, b)
	if e != api.OK {
		t.Fatal(e)
	}
	want := agg.State{Rows: api.MaxRows, Count: api.MaxRows, Sum: wide.Of(5 << 24), Min: num(5), Max: num(5)}
	if got, e := agg.Fold(ch, sel.Whole(api.MaxRows)); got != want || e != api.OK {
		t.Errorf("%v, %d; want %v", got, e, want)
	}
	last, _ := sel.At(api.MaxRows, []int{0, api.MaxRows - 1})
	want = agg.State{Rows: 2, Count: 2, Sum: wide.Of(10), Min: num(5), Max: num(5)}
	if got, e := agg.Fold(ch, last); got != want || e != api.OK {
		t.Errorf("%v, %d; want %v", got, e, want)
	}
}

// TestP22_2Texts: of a column of texts the Sum is 0, and Min and Max are told whole.
func TestP22_2Texts(t *testing.T) {
	long := strings.Repeat("\xff", api.MaxText)
	for _, ch := range chunksOf(t, textsOrNone, append(words("12", long, "7", "12"), null)) {
		if got, e := agg.Fold(ch, sel.Whole(5)); e != api.OK || got != (agg.State{Rows: 5, Count: 4, Min: word("12"), Max: word(long)}) {
			t.Errorf("by %v: %s, %d", ch.Codec(), brief(got), e)
		}
	}
}

// notThere are selections that are not there.
func notThere() []sel.Sel {
	return []sel.Sel{nil, sel.Dense{}, sel.Sparse{}, sel.Make(nil), sel.Whole(-1)}
}

// TestP22_2Nil: without a chunk or a selection the answer is ErrNil, whatever the other one is.
func TestP22_2Nil(t *testing.T) {
	for _, ch := range []*chunk.Chunk{nil, new(chunk.Chunk)} {
		for _, s := range append(notThere(), sel.Whole(0), sel.Whole(4), sel.None(4), sel.None(64), sel.Make(bits.Of(true))) {
			mustRefuse(t, ch, s, api.ErrNil)
		}
	}
	for _, x := range samples() {
		for _, ch := range chunksOf(t, x.col, x.list) {
			for _, s := range notThere() {
				mustRefuse(t, ch, s, api.ErrNil)
			}
		}
	}
}

// TestP22_2Size: a selection of another length is ErrSize, whatever is chosen in it.
func TestP22_2Size(t *testing.T) {
	for _, x := range samples() {
		for _, ch := range chunksOf(t, x.col, x.list) {
			for _, n := range []int{0, 1, 2, 3, 63, 64, 65, ch.Count(), ch.Count() + 1, len(x.list) - 1, len(x.list) + 1, len(x.list) + 64, 2 * len(x.list)} {
				if n < 0 || n == len(x.list) {
					continue
				}
				mustRefuse(t, ch, sel.Whole(n), api.ErrSize)
				mustRefuse(t, ch, sel.None(n), api.ErrSize)
			}
		}
	}
}

// TestP22_2NoValues: a chunk without values has the state of no rows; one of nulls alone counts its rows.
func TestP22_2NoValues(t *testing.T) {
	for _, col := range []api.Column{numbers, allNumbers, textsOrNone, allTexts} {
		for _, ch := range chunksOf(t, col, nil, everyWidth()...) {
			if got, e := agg.Fold(ch, sel.Whole(0)); got != agg.None() || e != api.OK {
				t.Errorf("of no values by %v: %v, %d", ch.Codec(), got, e)
			}
		}
	}
	for _, col := range []api.Column{numbers, textsOrNone} {
		for _, n := range []int{1, 63, 64, 65, 128} {
			for _, ch := range chunksOf(t, col, make([]api.Value, n), everyWidth()...) {
				if got, e := agg.Fold(ch, sel.Whole(n)); got != (agg.State{Rows: n}) || e != api.OK {
					t.Errorf("of %d nulls by %v: %v, %d", n, ch.Codec(), got, e)
				}
			}
		}
	}
}

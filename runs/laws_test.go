package runs_test

import (
	"math/rand/v2"
	"slices"
	"testing"

	"colonnade/api"
	"colonnade/runs"
)

// foldsBack says of l what follows of Fold, Unfold and At.
func foldsBack[T comparable](t *testing.T, l []T) {
	t.Helper()
	folded := runs.Fold(l)
	if back, e := runs.Unfold(folded); e != api.OK || !slices.Equal(back, l) {
		t.Fatalf("Unfold(Fold(%v)) = %v, %d", l, back, e)
	}
	for i, v := range l {
		if got, is := runs.At(folded, i); !is || got != v {
			t.Fatalf("At of Fold(%v) and %d = %v, %t", l, i, got, is)
		}
	}
	for _, i := range []int{-1, len(l), len(l) + 1} {
		if got, is := runs.At(folded, i); is {
			t.Fatalf("At of Fold(%v) and %d = %v", l, i, got)
		}
	}
}

func TestP10_6ThereAndBack(t *testing.T) {
	r := byChance(9)
	for n := range 300 {
		foldsBack(t, someInts(r, n, r.IntN(5)))
		foldsBack(t, someTexts(r, n, r.IntN(5)))
	}
}

// TestP10_6Fewest: of all ways to cut a list of few values into runs none has fewer than Fold.
func TestP10_6Fewest(t *testing.T) {
	var all func(l []int64)
	all = func(l []int64) {
		if len(l) > 0 {
			fewest := len(l)
			for cuts := range 1 << (len(l) - 1) {
				cut := cutAt(l, cuts)
				if means, e := runs.Unfold(cut); e == api.OK && slices.Equal(means, l) {
					fewest = min(fewest, len(cut))
				}
			}
			if got := runs.Fold(l); len(got) != fewest {
				t.Fatalf("Fold(%v) = %v, of %d at the fewest", l, got, fewest)
			}
		}
		if len(l) < 7 {
			for v := range int64(3) {
				all(append(slices.Clone(l), v))
			}
		}
	}
	all(nil)
}

// cutAt is the runs of l's pieces, cut behind i where bit i is 1, each of its first value.
func cutAt(l []int64, cuts int) []intRun {
	out := []intRun{{l[0], 1}}
	for i, v := range l[1:] {
		if cuts>>i&1 == 1 {
			out = append(out, intRun{v, 1})
		} else {
			out[len(out)-1].N++
		}
	}
	return out
}

func TestP10_7ThereAndBack(t *testing.T) {
	r := byChance(10)
	for n := range 200 {
		ints, texts := someInts(r, n, r.IntN(5)), someTexts(r, n, r.IntN(5))
		b, c := runs.PutInts(ints), runs.PutTexts(texts)
		mustInts(t, b, n, runs.Fold(ints))
		mustTexts(t, c, n, runs.Fold(texts))
		for m := range 2*n + 2 {
			if m != n {
				mustNotInts(t, b, m, api.ErrRuns)
				mustNotTexts(t, c, m, api.ErrRuns)
			}
		}
	}
}

// TestP10_7OneForm: whatever bytes are read, Put writes again of what the runs mean.
func TestP10_7OneForm(t *testing.T) {
	r := byChance(11)
	taken := 0
	for range 60000 {
		b, n := someForm(r)
		if l, e := runs.Ints(b, n); e == api.OK {
			taken++
			means, f := runs.Unfold(l)
			if f != api.OK || len(means) != n || !slices.Equal(l, runs.Fold(means)) {
				t.Fatalf("Ints(% X, %d) = %v: it means %d values, %d", b, n, l, len(means), f)
			}
			mustPutInts(t, means, b)
		}
		if l, e := runs.Texts(b, n); e == api.OK {
			taken++
			means, f := runs.Unfold(l)
			if f != api.OK || len(means) != n || !slices.Equal(l, runs.Fold(means)) {
				t.Fatalf("Texts(% X, %d) = %v: it means %d values, %d", b, n, l, len(means), f)
			}
			mustPutTexts(t, means, b)
		}
	}
	if taken < 5000 {
		t.Errorf("only %d of the bytes were runs", taken)
	}
}

// someForm is the bytes of a few values, some of them made others by chance, and a number of values near by.
func someForm(r *rand.Rand) ([]byte, int) {
	n := r.IntN(7)
	b := bytesOfInts(plainFold(someInts(r, n, 3))...)
	if r.IntN(2) == 0 {
		b = bytesOfTexts(plainFold(someTexts(r, n, 3))...)
	}
	for range r.IntN(3) {
		b[r.IntN(len(b))] = byte(r.Uint32()) >> r.IntN(8)
	}
	return b, max(n+r.IntN(3)-1, 0)
}

// TestP10_7MaxRows: just MaxRows values, one run and as many runs as values, and one more, which is put but neither read nor unfolded.
func TestP10_7MaxRows(t *testing.T) {
	if testing.Short() {
		t.Skip("has MaxRows values")
	}
	ints := slices.Repeat([]int64{-3}, api.MaxRows+1)
	mustFoldMany(t, ints, 1)
	mustPutInts(t, ints[:api.MaxRows], []byte{1, 128, 128, 128, 8, 5})
	mustPutInts(t, ints, []byte{1, 129, 128, 128, 8, 5})
	mustInts(t, []byte{1, 128, 128, 128, 8, 5}, api.MaxRows, []intRun{{-3, api.MaxRows}})
	mustNotInts(t, []byte{1, 129, 128, 128, 8, 5}, api.MaxRows, api.ErrRuns)
	mustNotInts(t, []byte{1, 129, 128, 128, 8, 5}, api.MaxRows+1, api.ErrArg)
	for i := range ints {
		ints[i] = int64(i % 2)
	}
	mustFoldMany(t, ints, api.MaxRows+1)
	b := runs.PutInts(ints[:api.MaxRows])
	l, e := runs.Ints(b, api.MaxRows)
	if e != api.OK || !slices.Equal(l, runs.Fold(ints[:api.MaxRows])) {
		t.Errorf("Ints of MaxRows runs: %d, %d", len(l), e)
	}
	if l, e := runs.Ints(runs.PutInts(ints), api.MaxRows); e != api.ErrRuns || len(l) != 0 {
		t.Errorf("Ints of one more: %d, %d", len(l), e)
	}
}

// mustFoldMany folds MaxRows values and one more, and unfolds the MaxRows.
func mustFoldMany(t *testing.T, l []int64, want int) {
	t.Helper()
	folded := runs.Fold(l)
	if len(folded) != want {
		t.Fatalf("Fold of %d values: %d runs, want %d", len(l), len(folded), want)
	}
	if back, e := runs.Unfold(folded); e != api.ErrLarge || len(back) != 0 {
		t.Errorf("Unfold of one more: %d, %d", len(back), e)
	}
	folded = runs.Fold(l[:api.MaxRows])
	if back, e := runs.Unfold(folded); e != api.OK || !slices.Equal(back, l[:api.MaxRows]) {
		t.Errorf("Unfold of MaxRows values: %d, %d", len(back), e)
	}
	for _, i := range []int{0, 1, api.MaxRows - 1} {
		mustAt(t, folded, i, l[i], true)
	}
	if v, is := runs.At(folded, api.MaxRows); is {
		t.Errorf("At behind the last: %d", v)
	}
}

func TestP10_7MaxRowsTexts(t *testing.T) {
	if testing.Short() {
		t.Skip("has MaxRows values")
	}
	texts := slices.Repeat([]string{"a", "bc"}, api.MaxRows/2)
	b := runs.PutTexts(texts)
	if want := 4 + 7*api.MaxRows/2; len(b) != want {
		t.Errorf("PutTexts of MaxRows runs: %d bytes, want %d", len(b), want)
	}
	l, e := runs.Texts(b, api.MaxRows)
	if e != api.OK || len(l) != api.MaxRows {
		t.Fatalf("Texts of MaxRows runs: %d, %d", len(l), e)
	}
	for i, x := range l {
		if x != (textRun{texts[i], 1}) {
			t.Fatalf("run number %d: %v", i, x)
		}
	}
	one := make([]string, api.MaxRows+1)
	mustPutTexts(t, one[:api.MaxRows], []byte{1, 128, 128, 128, 8, 0})
	mustPutTexts(t, one, []byte{1, 129, 128, 128, 8, 0})
	mustTexts(t, []byte{1, 128, 128, 128, 8, 0}, api.MaxRows, []textRun{{"", api.MaxRows}})
	mustNotTexts(t, []byte{1, 129, 128, 128, 8, 0}, api.MaxRows, api.ErrRuns)
	mustNotTexts(t, []byte{1, 129, 128, 128, 8, 0}, api.MaxRows+1, api.ErrArg)
}

// TestW0EveryCall: no bytes and no numbers make a call panic, and each answers as the plain one.
func TestW0EveryCall(t *testing.T) {
	r := byChance(12)
	for range 3000 {
		b := make([]byte, r.IntN(40))
		for i := range b {
			b[i] = byte(r.Uint32())
			for range r.IntN(5) {
				b[i] &= byte(r.Uint32())
			}
		}
		for _, n := range edgeCounts() {
			readAsPlain(t, b, n)
		}
	}
}

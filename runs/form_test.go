package runs_test

import (
	"bytes"
	"math"
	"slices"
	"strings"
	"testing"

	"colonnade/api"
	"colonnade/runs"
)

func mustPutInts(t *testing.T, l []int64, want []byte) {
	t.Helper()
	if got := runs.PutInts(l); !slices.Equal(got, want) {
		t.Errorf("PutInts of %d numbers = %s, want %s", len(l), brief(got), brief(want))
	}
}

func mustPutTexts(t *testing.T, l []string, want []byte) {
	t.Helper()
	if got := runs.PutTexts(l); !slices.Equal(got, want) {
		t.Errorf("PutTexts of %d texts = %s, want %s", len(l), brief(got), brief(want))
	}
}

func mustInts(t *testing.T, b []byte, n int, want []intRun) {
	t.Helper()
	if got, e := runs.Ints(b, n); e != api.OK || !slices.Equal(got, want) {
		t.Errorf("Ints(%s, %d) = %s, %d; want %s", brief(b), n, brief(got), e, brief(want))
	}
}

func mustTexts(t *testing.T, b []byte, n int, want []textRun) {
	t.Helper()
	if got, e := runs.Texts(b, n); e != api.OK || !slices.Equal(got, want) {
		t.Errorf("Texts(%s, %d) = %s, %d; want %s", brief(b), n, brief(got), e, brief(want))
	}
}

func mustNotInts(t *testing.T, b []byte, n int, want api.Errno) {
	t.Helper()
	if got, e := runs.Ints(b, n); e != want || len(got) != 0 {
		t.Errorf("Ints(%s, %d) = %s, %d; want %d", brief(b), n, brief(got), e, want)
	}
}

func mustNotTexts(t *testing.T, b []byte, n int, want api.Errno) {
	t.Helper()
	if got, e := runs.Texts(b, n); e != want || len(got) != 0 {
		t.Errorf("Texts(%s, %d) = %s, %d; want %d", brief(b), n, brief(got), e, want)
	}
}

// mustNeither is for bytes that are refused alike as numbers and as texts.
func mustNeither(t *testing.T, b []byte, n int, want api.Errno) {
	t.Helper()
	mustNotInts(t, b, n, want)
	mustNotTexts(t, b, n, want)
}

// readAsPlain holds Ints and Texts of some bytes against the plain readings; it answers how many of the two took them.
func readAsPlain(t *testing.T, b []byte, n int) int {
	t.Helper()
	taken := 0
	ints, e := plainInts(b, n)
	if got, f := runs.Ints(b, n); f != e || !slices.Equal(got, ints) {
		t.Fatalf("Ints(% X, %d) = %v, %d; want %v, %d", b, n, got, f, ints, e)
	}
	if e == api.OK {
		taken++
	}
	texts, e := plainTexts(b, n)
	if got, f := runs.Texts(b, n); f != e || !slices.Equal(got, texts) {
		t.Fatalf("Texts(% X, %d) = %v, %d; want %v, %d", b, n, got, f, texts, e)
	}
	if e == api.OK {
		taken++
	}
	return taken
}

func join(l ...[]byte) []byte { return slices.Concat(l...) }

func TestP10_4PutInts(t *testing.T) {
	mustPutInts(t, []int64{}, []byte{0})
	mustPutInts(t, []int64{0}, []byte{1, 1, 0})
	mustPutInts(t, []int64{-1, 1}, []byte{2, 1, 1, 1, 2})
	mustPutInts(t, []int64{63, 64, -64, -65}, []byte{4, 1, 126, 1, 128, 1, 1, 127, 1, 129, 1})
	mustPutInts(t, slices.Repeat([]int64{3}, 127), []byte{1, 127, 6})
	mustPutInts(t, slices.Repeat([]int64{3}, 300), []byte{1, 172, 2, 6})
	ends := join([]byte{3, 2}, bytes.Repeat([]byte{255}, 9), []byte{1, 1, 254}, bytes.Repeat([]byte{255}, 8), []byte{1, 1, 0})
	mustPutInts(t, []int64{math.MinInt64, math.MinInt64, math.MaxInt64, 0}, ends)
	r := byChance(4)
	for n := range 400 {
		l := someInts(r, n, r.IntN(9))
		mustPutInts(t, l, bytesOfInts(plainFold(l)...))
	}
}

func TestP10_4PutTexts(t *testing.T) {
	mustPutTexts(t, nil, []byte{0})
	mustPutTexts(t, []string{""}, []byte{1, 1, 0})
	mustPutTexts(t, []string{"", "", "ab", ""}, []byte{3, 2, 0, 1, 2, 'a', 'b', 1, 0})
	mustPutTexts(t, []string{"\x00", "\xff\xff"}, []byte{2, 1, 1, 0, 1, 2, 255, 255})
	long := strings.Repeat("x", 128)
	mustPutTexts(t, slices.Repeat([]string{long}, 129), join([]byte{1, 129, 1, 128, 1}, []byte(long)))
	r := byChance(5)
	for n := range 400 {
		l := someTexts(r, n, r.IntN(9))
		mustPutTexts(t, l, bytesOfTexts(plainFold(l)...))
	}
}

// TestP10_4ManyRuns: as many runs as one byte tells, one more, and many.
func TestP10_4ManyRuns(t *testing.T) {
	for _, n := range []int{127, 128, 129, 16383, 16384, 20000} {
		var ints []int64
		var texts []string
		for i := range n {
			ints = append(ints, int64(i%2))
			texts = append(texts, "ab"[i%2:i%2+1])
		}
		b := runs.PutInts(ints)
		if front := short(uint64(n)); len(b) != len(front)+2*n || !bytes.HasPrefix(b, front) || !slices.Equal(b, bytesOfInts(plainFold(ints)...)) {
			t.Errorf("PutInts of %d runs: %d bytes", n, len(b))
		}
		mustInts(t, b, n, plainFold(ints))
		b = runs.PutTexts(texts)
		if !slices.Equal(b, bytesOfTexts(plainFold(texts)...)) {
			t.Errorf("PutTexts of %d runs: %d bytes", n, len(b))
		}
		mustTexts(t, b, n, plainFold(texts))
	}
}

// TestP10_5LongTexts: a text of more than MaxText bytes is put, but not read, whatever else is wrong behind its length.
func TestP10_5LongTexts(t *testing.T) {
	long := strings.Repeat("x", api.MaxText)
	front := []byte{1, 2, 255, 255, 3}
	mustPutTexts(t, []string{long, long}, join(front, []byte(long)))
	mustTexts(t, join(front, []byte(long)), 2, []textRun{{long, 2}})
	mustNotTexts(t, join(front, []byte(long[1:])), 2, api.ErrShort)
	mustNotTexts(t, join(front, []byte(long+"x")), 2, api.ErrRest)

	over := []byte{1, 2, 128, 128, 4}
	mustPutTexts(t, []string{long + "x", long + "x"}, join(over, []byte(long+"x")))
	mustNotTexts(t, join(over, []byte(long+"x")), 2, api.ErrForm)
	mustNotTexts(t, over, 2, api.ErrForm)
	mustNotTexts(t, over, 1, api.ErrForm)
	mustNotTexts(t, join([]byte{1, 0, 128, 128, 4}, []byte(long+"x")), 2, api.ErrForm)
	mustNotTexts(t, bytesOfTexts(textRun{"a", 1}, textRun{long + "x", 1}), 2, api.ErrForm)
	mustNotTexts(t, bytesOfTexts(textRun{"a", 2}, textRun{long + "x", 1}), 1, api.ErrRuns)
	for _, size := range []uint64{1 << 24, 1 << 32, 1<<32 + 1, 1 << 62, 1 << 63, math.MaxUint64} {
		mustNotTexts(t, join([]byte{1, 1}, short(size), []byte("a")), 1, api.ErrForm)
	}
}

func TestP10_5Read(t *testing.T) {
	mustInts(t, []byte{0}, 0, nil)
	mustTexts(t, []byte{0}, 0, nil)
	mustInts(t, []byte{1, 1, 0}, 1, []intRun{{0, 1}})
	mustTexts(t, []byte{1, 1, 0}, 1, []textRun{{"", 1}})
	mustInts(t, []byte{3, 1, 2, 3, 4, 2, 2}, 6, []intRun{{1, 1}, {2, 3}, {1, 2}})
	mustTexts(t, []byte{3, 1, 0, 2, 1, 'z', 127, 0}, 130, []textRun{{"", 1}, {"z", 2}, {"", 127}})
	mustInts(t, bytesOfInts(intRun{math.MinInt64, 5}, intRun{math.MaxInt64, 300}), 305, []intRun{{math.MinInt64, 5}, {math.MaxInt64, 300}})
	r := byChance(6)
	for n := range 300 {
		ints, texts := plainFold(someInts(r, n, r.IntN(9))), plainFold(someTexts(r, n, r.IntN(9)))
		mustInts(t, bytesOfInts(ints...), n, ints)
		mustTexts(t, bytesOfTexts(texts...), n, texts)
	}
}

// TestP10_5N: n that may not be is told ahead of all that the bytes are; n that may be is held against them.
func TestP10_5N(t *testing.T) {
	for _, b := range [][]byte{nil, {0}, {128}, {129, 0}, {255, 255}, {1, 1, 0}, {1, 0, 0}, {2, 1, 0, 1, 0}, {1, 3, 0}, {1, 1, 0, 9}, {5}, bytesOfInts(intRun{1, 16777216}), bytesOfInts(intRun{1, 16777217}), bytesOfInts(intRun{1, 16777215}, intRun{2, 1})} {
		for _, n := range edgeCounts() {
			if n < 0 || n > 16777216 {
				mustNeither(t, b, n, api.ErrArg)
			}
			readAsPlain(t, b, n)
		}
	}
	mustInts(t, bytesOfInts(intRun{1, 16777216}), 16777216, []intRun{{1, 16777216}})
	mustTexts(t, bytesOfTexts(textRun{"", 16777216}), 16777216, []textRun{{"", 16777216}})
	mustNeither(t, bytesOfInts(intRun{0, 16777217}), 16777216, api.ErrRuns)
	mustNeither(t, bytesOfInts(intRun{0, 16777217}), 16777217, api.ErrArg)
}

// TestP10_5NotTheN: the N together above n at the first run, in the midst and at the last one, and below n behind the last one.
func TestP10_5NotTheN(t *testing.T) {
	ints, texts := bytesOfInts(intRun{1, 2}, intRun{2, 3}, intRun{3, 4}), bytesOfTexts(textRun{"a", 2}, textRun{"", 3}, textRun{"c", 4})
	for n := range 20 {
		if n != 9 {
			mustNotInts(t, ints, n, api.ErrRuns)
			mustNotTexts(t, texts, n, api.ErrRuns)
		}
	}
	mustInts(t, ints, 9, []intRun{{1, 2}, {2, 3}, {3, 4}})
	mustTexts(t, texts, 9, []textRun{{"a", 2}, {"", 3}, {"c", 4}})
	mustNotInts(t, ints, api.MaxRows, api.ErrRuns)
	mustNeither(t, []byte{0}, 1, api.ErrRuns)
	mustNeither(t, []byte{0}, api.MaxRows, api.ErrRuns)

	// What stands behind the run at which n is passed is not read: no fault of it is told.
	for n := range 5 {
		mustNotInts(t, ints[:6], n, api.ErrRuns)
	}
	for n := 5; n < 12; n++ {
		mustNotInts(t, ints[:6], n, api.ErrShort)
	}
	mustNotInts(t, []byte{2, 3, 2, 129, 0}, 2, api.ErrRuns)
	mustNotInts(t, []byte{2, 3, 2, 129, 0}, 3, api.ErrForm)
	mustNotInts(t, []byte{2, 3, 2, 1}, 2, api.ErrRuns)
	mustNotInts(t, []byte{2, 3, 2, 1}, 3, api.ErrShort)
}

// TestP10_5GreatN: an N beyond what an int holds, and N whose sum goes round, are above n.
func TestP10_5GreatN(t *testing.T) {
	for _, often := range []uint64{4, 1<<24 + 1, 1 << 31, 1 << 32, 1<<32 + 3, 1 << 62, 1<<63 - 1, 1 << 63, 1<<63 + 3, math.MaxUint64 - 1, math.MaxUint64} {
		for _, n := range []int{0, 1, 2, 3} {
			mustNeither(t, join([]byte{1}, short(often), []byte{0}), n, api.ErrRuns)
			mustNeither(t, join([]byte{1}, short(often)), n, api.ErrShort)
			mustNeither(t, join([]byte{1}, short(often), []byte{129, 0}), n, api.ErrForm)
		}
		mustNeither(t, join([]byte{2, 1, 0}, short(often), []byte{1, 97}), 4, api.ErrRuns)
		mustNeither(t, join([]byte{3, 1, 0}, short(often), []byte{1, 97, 1, 0}), 4, api.ErrRuns)
	}
	back := join([]byte{3, 3, 0}, short(1<<64-3), []byte{2, 2, 0})
	mustNotInts(t, back, 2, api.ErrRuns)
	mustNotInts(t, back, 3, api.ErrRuns)
	mustNotInts(t, join([]byte{2}, short(1<<63), []byte{0}, short(1<<63), []byte{2}), 0, api.ErrRuns)
}

// TestP10_5NoN: an N of 0 at the first run, in the midst and at the last one; its value is read first.
func TestP10_5NoN(t *testing.T) {
	for _, l := range [][]intRun{{{1, 0}}, {{1, 0}, {2, 1}}, {{1, 1}, {2, 0}}, {{1, 1}, {2, 0}, {3, 1}}, {{1, 1}, {2, 0}, {1, 1}}} {
		for n := range 4 {
			mustNotInts(t, bytesOfInts(l...), n, api.ErrRuns)
		}
	}
	for n := range 3 {
		mustNotTexts(t, []byte{1, 0, 1, 'a'}, n, api.ErrRuns)
		mustNeither(t, []byte{1, 0}, n, api.ErrShort)
		mustNeither(t, []byte{1, 0, 129}, n, api.ErrShort)
		mustNeither(t, []byte{1, 0, 129, 0}, n, api.ErrForm)
		mustNotTexts(t, []byte{1, 0, 2, 'a'}, n, api.ErrShort)
		mustNeither(t, []byte{2, 0, 0}, n, api.ErrRuns)
		mustNeither(t, []byte{2, 0, 0, 129, 0}, n, api.ErrRuns)
		mustNeither(t, []byte{1, 0, 0, 9}, n, api.ErrRuns)
	}
}

// TestP10_5Alike: a value alike to the one ahead of it, and only to that one.
func TestP10_5Alike(t *testing.T) {
	mustNotInts(t, bytesOfInts(intRun{4, 1}, intRun{4, 1}), 2, api.ErrRuns)
	mustNotInts(t, bytesOfInts(intRun{0, 1}, intRun{0, 1}), 2, api.ErrRuns)
	mustNotInts(t, bytesOfInts(intRun{4, 1}, intRun{5, 2}, intRun{5, 3}), 6, api.ErrRuns)
	mustNotInts(t, bytesOfInts(intRun{4, 1}, intRun{4, 2}, intRun{5, 3}), 6, api.ErrRuns)
	mustNotInts(t, bytesOfInts(intRun{math.MinInt64, 1}, intRun{math.MinInt64, 2}), 3, api.ErrRuns)
	mustInts(t, bytesOfInts(intRun{4, 1}, intRun{5, 2}, intRun{4, 3}), 6, []intRun{{4, 1}, {5, 2}, {4, 3}})
	mustInts(t, bytesOfInts(intRun{0, 1}), 1, []intRun{{0, 1}})
	mustNotTexts(t, bytesOfTexts(textRun{"", 1}, textRun{"", 1}), 2, api.ErrRuns)
	mustNotTexts(t, bytesOfTexts(textRun{"ab", 1}, textRun{"ab", 1}), 2, api.ErrRuns)
	mustNotTexts(t, bytesOfTexts(textRun{"", 1}, textRun{"ab", 2}, textRun{"ab", 1}), 4, api.ErrRuns)
	mustTexts(t, bytesOfTexts(textRun{"ab", 1}, textRun{"a", 1}, textRun{"ab", 1}), 3, []textRun{{"ab", 1}, {"a", 1}, {"ab", 1}})
	// Its bytes must be there, and what stands behind it is not read.
	mustNotTexts(t, []byte{2, 1, 1, 'a', 1, 1}, 2, api.ErrShort)
	mustNeither(t, []byte{3, 1, 0, 1, 0, 129, 0}, 9, api.ErrRuns)
	mustNeither(t, []byte{2, 1, 0, 1, 0, 7}, 2, api.ErrRuns)
}

// TestP10_5Counts: how many runs there are, in forms that are not the short one, and above what the bytes can hold.
func TestP10_5Counts(t *testing.T) {
	mustNeither(t, nil, 0, api.ErrShort)
	mustNeither(t, []byte{128}, 0, api.ErrShort)
	mustNeither(t, bytes.Repeat([]byte{255}, 9), 1, api.ErrShort)
	for _, front := range [][]byte{{128, 0}, {128, 128, 0}, append(bytes.Repeat([]byte{128}, 9), 0), append(bytes.Repeat([]byte{128}, 9), 2), bytes.Repeat([]byte{255}, 10), bytes.Repeat([]byte{255}, 11)} {
		for n := range 3 {
			mustNeither(t, front, n, api.ErrForm)
			mustNeither(t, join(front, []byte{1, 0}), n, api.ErrForm)
		}
	}
	mustNeither(t, []byte{129, 0, 1, 0}, 1, api.ErrForm)
	for _, count := range []uint64{2, 3, 127, 128, 1 << 24, 1<<24 + 1, 1 << 32, 1 << 62, 1<<63 - 1, 1 << 63, math.MaxUint64} {
		mustNeither(t, short(count), 0, api.ErrShort)
		mustNeither(t, short(count), 5, api.ErrShort)
		mustNeither(t, join(short(count), []byte{1, 0}), 1, api.ErrShort)
		mustNeither(t, join(short(count), []byte{1, 0}), 0, api.ErrRuns)
	}
	// Fewer runs than there are bytes for.
	mustNeither(t, []byte{1, 1, 0, 1, 2}, 1, api.ErrRest)
	mustNeither(t, []byte{1, 1, 0, 1, 2}, 2, api.ErrRuns)
	mustNeither(t, []byte{0, 1, 0}, 0, api.ErrRest)
	mustNeither(t, []byte{0, 1, 0}, 1, api.ErrRuns)
}

// TestP10_5Forms: an N, a number or a text's length that is not the short one.
func TestP10_5Forms(t *testing.T) {
	mustNeither(t, []byte{1, 129, 0, 0}, 1, api.ErrForm)
	mustNeither(t, []byte{1, 128, 0, 0}, 0, api.ErrForm)
	mustNeither(t, []byte{1, 129, 128, 0, 0}, 1, api.ErrForm)
	mustNeither(t, []byte{1, 1, 128, 0}, 1, api.ErrForm)
	mustNeither(t, []byte{2, 1, 0, 129, 0, 0}, 2, api.ErrForm)
	mustNeither(t, []byte{2, 1, 0, 1, 128, 0}, 2, api.ErrForm)
	mustNeither(t, join([]byte{1}, bytes.Repeat([]byte{255}, 10), []byte{0}), 1, api.ErrForm)
	mustNeither(t, join([]byte{1, 1}, bytes.Repeat([]byte{255}, 10)), 1, api.ErrForm)
	mustNeither(t, []byte{1, 129}, 1, api.ErrShort)
	mustNeither(t, []byte{1, 1, 129}, 1, api.ErrShort)
}

// TestP10_5OneByteFewerOrMore: every beginning of the bytes, and a byte behind them.
func TestP10_5OneByteFewerOrMore(t *testing.T) {
	r := byChance(7)
	for range 200 {
		n := r.IntN(40)
		ints, texts := bytesOfInts(plainFold(someInts(r, n, 3))...), bytesOfTexts(plainFold(someTexts(r, n, 3))...)
		for i := range ints {
			mustNotInts(t, ints[:i], n, api.ErrShort)
		}
		for i := range texts {
			mustNotTexts(t, texts[:i], n, api.ErrShort)
		}
		for _, more := range []byte{0, 1, 128, 255} {
			mustNotInts(t, append(slices.Clone(ints), more), n, api.ErrRest)
			mustNotTexts(t, append(slices.Clone(texts), more), n, api.ErrRest)
			mustNotInts(t, append(slices.Clone(ints), more), n+1, api.ErrRuns)
			mustNotTexts(t, append(slices.Clone(texts), more), n+1, api.ErrRuns)
		}
	}
}

// TestP10_5AllBytes: all bytes of up to six out of a few, with every n near by.
func TestP10_5AllBytes(t *testing.T) {
	few := []byte{0, 1, 2, 3, 128, 129}
	taken := 0
	var all func(b []byte)
	all = func(b []byte) {
		for n := -1; n < 6; n++ {
			taken += readAsPlain(t, b, n)
		}
		if len(b) < 6 {
			for _, c := range few {
				all(append(b, c))
			}
		}
	}
	all(nil)
	if taken < 100 {
		t.Errorf("only %d of the bytes were runs", taken)
	}
}

// TestP10_5EveryByte: every byte of some runs' bytes made every other one, and every n near by.
func TestP10_5EveryByte(t *testing.T) {
	r := byChance(8)
	taken := 0
	for _, n := range []int{1, 2, 3, 5, 9, 20, 60} {
		for _, b := range [][]byte{bytesOfInts(plainFold(someInts(r, n, 2))...), bytesOfTexts(plainFold(someTexts(r, n, 2))...)} {
			for at := range min(len(b), 100) {
				was := b[at]
				for v := range 256 {
					b[at] = byte(v)
					taken += readAsPlain(t, b, n)
				}
				b[at] = was
			}
			for m := range 2*n + 9 {
				taken += readAsPlain(t, b, m)
			}
		}
	}
	if taken < 1000 {
		t.Errorf("only %d of the bytes were runs", taken)
	}
}

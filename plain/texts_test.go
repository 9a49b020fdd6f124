package plain_test

import (
	"math"
	"slices"
	"strings"
	"testing"

	"colonnade/api"
	"colonnade/plain"
)

func mustPutTexts(t *testing.T, want []byte, l ...string) {
	t.Helper()
	if got, e := plain.PutTexts(l); !slices.Equal(got, want) || e != api.OK {
		t.Errorf("PutTexts of %d texts = % X, %d; want % X", len(l), got, e, want)
	}
}

func mustTexts(t *testing.T, b []byte, n int, e api.Errno, want ...string) {
	t.Helper()
	if got, f := plain.Texts(b, n); !slices.Equal(got, want) || f != e {
		t.Errorf("Texts of %d bytes with n %d = %d texts, %d; want %d, %d", len(b), n, len(got), f, len(want), e)
	}
}

func mustTextAt(t *testing.T, b []byte, n, i int, want string, is bool) {
	t.Helper()
	if got, ok := plain.TextAt(b, n, i); got != want || ok != is {
		t.Errorf("TextAt of %d bytes with n %d, %d = %q, %v; want %q, %v", len(b), n, i, got, ok, want, is)
	}
}

func TestP8_3PutTexts(t *testing.T) {
	mustPutTexts(t, []byte{0, 0, 0, 0})
	mustPutTexts(t, []byte{0, 0, 0, 0, 0, 0, 0, 0}, "")
	mustPutTexts(t, make([]byte, 16), "", "", "")
	mustPutTexts(t, []byte{0, 0, 0, 0, 1, 0, 0, 0, 0}, "\x00")
	mustPutTexts(t, []byte{0, 0, 0, 0, 0, 0, 0, 0, 2, 0, 0, 0, 255, 254}, "", "\xff\xfe")
	r := byChance(4)
	for n := range 60 {
		l := someTexts(r, n)
		mustPutTexts(t, plainPutTexts(l), l...)
	}
	long := strings.Repeat("long", 70)
	mustPutTexts(t, append([]byte{0, 0, 0, 0, 24, 1, 0, 0}, long...), long)
}

func TestP8_3LongTexts(t *testing.T) {
	most := strings.Repeat("x", api.MaxText)
	mustPutTexts(t, plainPutTexts([]string{most}), most)
	mustPutTexts(t, plainPutTexts([]string{"a", most, most, "b", most}), "a", most, most, "b", most)
	for _, l := range [][]string{{most + "x"}, {"", most + "x"}, {most + "x", ""}, {most, most, most + "x", most}, {strings.Repeat("y", 1<<20)}} {
		if b, e := plain.PutTexts(l); len(b) != 0 || e != api.ErrLarge {
			t.Errorf("PutTexts of a text of more than MaxText bytes: %d bytes, %d", len(b), e)
		}
	}
}

// TestP8_3AllTogether: 65537 texts of MaxText bytes have 2^32 - 1 bytes together; one byte more is too much.
func TestP8_3AllTogether(t *testing.T) {
	l := slices.Repeat([]string{strings.Repeat("x", api.MaxText)}, 65537)
	for _, more := range [][]string{{"y"}, {"", "y"}, {"y", ""}, {l[0]}, {"", l[0], l[0]}} {
		if b, e := plain.PutTexts(slices.Concat(l, more)); len(b) != 0 || e != api.ErrLarge {
			t.Errorf("PutTexts of more than 2^32 - 1 bytes: %d bytes, %d", len(b), e)
		}
	}
	if b, e := plain.PutTexts(slices.Repeat(l, 4)); len(b) != 0 || e != api.ErrLarge {
		t.Errorf("PutTexts of 2^34 - 4 bytes: %d bytes, %d", len(b), e)
	}
}

func TestP8_3MaxRows(t *testing.T) {
	if testing.Short() {
		t.Skip("has MaxRows texts")
	}
	l := make([]string, api.MaxRows+1)
	if b, e := plain.PutTexts(l); len(b) != 0 || e != api.ErrLarge {
		t.Errorf("PutTexts of MaxRows + 1 texts: %d bytes, %d", len(b), e)
	}
	l[0], l[9], l[api.MaxRows-1] = "a", "bc", "d"
	b, e := plain.PutTexts(l[:api.MaxRows])
	if e != api.OK || len(b) != 4*(api.MaxRows+1)+4 {
		t.Fatalf("PutTexts of MaxRows texts: %d bytes, %d", len(b), e)
	}
	if got, e := plain.Texts(b, api.MaxRows); e != api.OK || !slices.Equal(got, l[:api.MaxRows]) {
		t.Errorf("Texts of MaxRows texts: %d of them, %d", len(got), e)
	}
	mustTexts(t, b, api.MaxRows+1, api.ErrLarge)
	mustTextAt(t, b, api.MaxRows, api.MaxRows-1, "d", true)
	mustTextAt(t, b, api.MaxRows, api.MaxRows, "", false)
	mustTextAt(t, append(b, 0, 0, 0, 0, 0), api.MaxRows+1, 0, "", false)
	mustTextAt(t, append(b, 0, 0, 0, 0, 0), api.MaxRows+1, 9, "", false)
}

func TestP8_4Texts(t *testing.T) {
	mustTexts(t, []byte{0, 0, 0, 0}, 0, api.OK)
	mustTexts(t, make([]byte, 16), 3, api.OK, "", "", "")
	r := byChance(5)
	for n := range 60 {
		l := someTexts(r, n)
		mustTexts(t, plainPutTexts(l), n, api.OK, l...)
	}
}

// TestP8_4TooFewEnds: bytes that do not have all the ends are short, whatever those that they have say.
func TestP8_4TooFewEnds(t *testing.T) {
	for n := range 6 {
		for size := range 4 * (n + 1) {
			b := slices.Repeat([]byte{9}, size)
			mustTexts(t, b, n, api.ErrShort)
			mustTexts(t, make([]byte, size), n, api.ErrShort)
		}
		mustTexts(t, slices.Repeat([]byte{9}, 4*(n+1)), n, api.ErrForm)
		mustTexts(t, make([]byte, 4*(n+1)), n, api.OK, make([]string, n)...)
	}
	mustTexts(t, make([]byte, 64), api.MaxRows, api.ErrShort)
}

func TestP8_4Ends(t *testing.T) {
	most := strings.Repeat("m", api.MaxText)
	for _, x := range []struct {
		b    []byte
		n    int
		e    api.Errno
		want []string
	}{
		{shelf("", 1), 0, api.ErrForm, nil},
		{shelf("a", 1), 0, api.ErrForm, nil},
		{shelf("", 1<<24), 0, api.ErrForm, nil},
		{shelf("", 1<<31), 0, api.ErrForm, nil},
		{shelf("abc", 1, 2, 3), 2, api.ErrForm, nil},
		{shelf("abc", 0, 2, 1), 2, api.ErrForm, nil},
		{shelf("abc", 0, 3, 2, 3), 3, api.ErrForm, nil},
		{shelf("ab", 0, 2, 2), 2, api.OK, []string{"ab", ""}},
		{shelf("ab", 0, 0, 2), 2, api.OK, []string{"", "ab"}},
		{shelf(most, 0, 65535), 1, api.OK, []string{most}},
		{shelf(most+"x", 0, 65536), 1, api.ErrForm, nil},
		{shelf("a"+most, 0, 1, 65536), 2, api.OK, []string{"a", most}},
		{shelf("a"+most+"x", 0, 1, 65537), 2, api.ErrForm, nil},
		{shelf(most+most, 0, 65535, 131070), 2, api.OK, []string{most, most}},
		{shelf(most+most+"x", 0, 65535, 131071), 2, api.ErrForm, nil},
		{shelf("", 0, 1<<31, 0), 2, api.ErrForm, nil},
		{shelf("", 0, 1<<32-1, 0), 2, api.ErrForm, nil},
		{shelf("", 0, 5, 1<<32-1), 2, api.ErrForm, nil},
		{shelf("", 0, 1<<32-1), 1, api.ErrForm, nil},
	} {
		mustTexts(t, x.b, x.n, x.e, x.want...)
	}
}

func TestP8_4Heap(t *testing.T) {
	r := byChance(6)
	for n := range 30 {
		l := append(someTexts(r, n), "end")
		b := plainPutTexts(l)
		mustTexts(t, b[:len(b)-1], len(l), api.ErrShort)
		mustTexts(t, append(b, 0), len(l), api.ErrRest)
		mustTexts(t, b, len(l), api.OK, l...)
	}
	mustTexts(t, shelf("x", 0), 0, api.ErrRest)
	mustTexts(t, shelf("x", 0, 0), 1, api.ErrRest)
	mustTexts(t, shelf("", 0, 1), 1, api.ErrShort)
	mustTexts(t, shelf("", 0, 65535), 1, api.ErrShort)
}

// TestP8_4OrderOfErrors: n, then whether all ends are there, then what they say, then the heap.
func TestP8_4OrderOfErrors(t *testing.T) {
	for _, b := range [][]byte{nil, {1}, make([]byte, 4), shelf("", 1, 0), shelf("ab", 5, 0, 1<<31)} {
		for _, n := range edgeCounts() {
			want, e := plainTexts(b, n)
			mustTexts(t, b, n, e, want...)
		}
		mustTexts(t, b, -1, api.ErrArg)
		mustTexts(t, b, math.MinInt, api.ErrArg)
		mustTexts(t, b, api.MaxRows+1, api.ErrLarge)
		mustTexts(t, b, math.MaxInt, api.ErrLarge)
		mustTexts(t, b, api.MaxRows, api.ErrShort)
	}
	mustTexts(t, shelf("", 1, 9, 3)[:11], 2, api.ErrShort)
	mustTexts(t, shelf("", 0, 9, 3), 2, api.ErrForm)
	mustTexts(t, shelf("heap is long", 0, 9, 3), 2, api.ErrForm)
	mustTexts(t, shelf("", 0, 3, 65539), 2, api.ErrForm)
}

func TestP8_6TextAt(t *testing.T) {
	l := []string{"ab", "", "c", "\x00\xff", ""}
	b := plainPutTexts(l)
	for i, want := range l {
		mustTextAt(t, b, 5, i, want, true)
	}
	for _, i := range []int{math.MinInt, -1 << 62, -6, -1, 5, 6, 1 << 30, 1 << 61, 1 << 62, 1<<62 + 1, math.MaxInt - 1, math.MaxInt} {
		mustTextAt(t, b, 5, i, "", false)
		mustTextAt(t, b, 0, i, "", false)
	}
	mustTextAt(t, b, 0, 0, "", false)
	mustTextAt(t, b, 1, 1, "", false)
	for _, n := range edgeCounts() {
		for _, i := range append(edgeCounts(), n-1) {
			want, is := plainTextAt(b, n, i)
			mustTextAt(t, b, n, i, want, is)
		}
	}
}

// TestP8_6TwoEndsAlone: the text is told, if just its two ends are fine, whatever the others say and however long it is.
func TestP8_6TwoEndsAlone(t *testing.T) {
	for _, x := range []struct {
		b    []byte
		n, i int
		want string
		is   bool
	}{
		{shelf("abcd", 1, 3, 2, 1<<32-1), 3, 0, "bc", true},
		{shelf("abcd", 1, 3, 2, 1<<32-1), 3, 1, "", false},
		{shelf("abcd", 1, 3, 2, 1<<32-1), 3, 2, "", false},
		{shelf("abcd", 1<<32-1, 0, 4), 2, 1, "abcd", true},
		{shelf("abcd", 1<<32-1, 0, 5), 2, 1, "", false},
		{shelf("abcd", 1<<32-1, 0, 4), 2, 0, "", false},
		{shelf("abcd", 4, 4), 1, 0, "", true},
		{shelf("abcd", 5, 5), 1, 0, "", false},
		{shelf("abcd", 0, 2), 1, 0, "ab", true},
		{shelf("abcd", 2, 1), 1, 0, "", false},
		{shelf("", 1<<31, 1<<31), 1, 0, "", false},
		{shelf("", 1<<32-1, 1<<32-1), 1, 0, "", false},
		{shelf(strings.Repeat("z", 70000), 0, 65536), 1, 0, strings.Repeat("z", 65536), true},
		{shelf(strings.Repeat("z", 70000), 0, 70000), 1, 0, strings.Repeat("z", 70000), true},
	} {
		mustTextAt(t, x.b, x.n, x.i, x.want, x.is)
	}
}

// TestP8_6FewerBytes: all n + 1 ends must be there, also those that are not looked at.
func TestP8_6FewerBytes(t *testing.T) {
	b := shelf("", 0, 0, 0, 0)
	for size := range len(b) {
		for i := range 3 {
			mustTextAt(t, b[:size], 3, i, "", false)
		}
	}
	for i := range 3 {
		mustTextAt(t, b, 3, i, "", true)
	}
	mustTextAt(t, b, api.MaxRows, 0, "", false)
}

// TestP8_6AnotherCount: with an n that is not the one that was put, ends are read as heap, or heap as ends.
func TestP8_6AnotherCount(t *testing.T) {
	r := byChance(7)
	for range 200 {
		l := someTexts(r, r.IntN(9))
		b := plainPutTexts(l)
		for n := -1; n < 14; n++ {
			for i := -1; i < 14; i++ {
				want, is := plainTextAt(b, n, i)
				mustTextAt(t, b, n, i, want, is)
			}
		}
	}
}

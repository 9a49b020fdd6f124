package cursor_test

import (
	"bytes"
	"slices"
	"strings"
	"testing"

	"colonnade/cursor"
)

// beginnings are what stands ahead of what is put.
func beginnings() [][]byte {
	return [][]byte{nil, {}, {9}, {0}, {255, 128, 0}, make([]byte, 300), []byte("abc")[:1:2], []byte("abc")[:2]}
}

// holds says whether got is b and behind it more.
func holds(t *testing.T, what string, got, b, more []byte) {
	t.Helper()
	if want := slices.Concat(b, more); !slices.Equal(got, want) {
		t.Fatalf("%s behind % X = % X, want % X", what, b, got, want)
	}
}

func TestP7_1Put(t *testing.T) {
	for _, b := range beginnings() {
		for _, v := range numbers() {
			holds(t, "uint8", cursor.Put(b, uint8(v)), b, plainPut(v, 1))
			holds(t, "uint16", cursor.Put(b, uint16(v)), b, plainPut(v, 2))
			holds(t, "uint32", cursor.Put(b, uint32(v)), b, plainPut(v, 4))
			holds(t, "uint64", cursor.Put(b, v), b, plainPut(v, 8))
			holds(t, "octet", cursor.Put(b, octet(v)), b, plainPut(v, 1))
			holds(t, "octet2", cursor.Put(b, octet2(v)), b, plainPut(v, 1))
			holds(t, "pair", cursor.Put(b, pair(v)), b, plainPut(v, 2))
			holds(t, "quad", cursor.Put(b, quad(v)), b, plainPut(v, 4))
			holds(t, "eight", cursor.Put(b, eight(v)), b, plainPut(v, 8))
		}
	}
}

func TestP7_1LowestFirst(t *testing.T) {
	if got := cursor.Put(nil, uint64(0x0807060504030201)); !slices.Equal(got, []byte{1, 2, 3, 4, 5, 6, 7, 8}) {
		t.Errorf("Put of a uint64: % X", got)
	}
	if got := cursor.Put(nil, quad(0xFF000080)); !slices.Equal(got, []byte{128, 0, 0, 255}) {
		t.Errorf("Put of a kind over uint32: % X", got)
	}
}

func TestP7_2PutUvarint(t *testing.T) {
	for _, b := range beginnings() {
		for _, v := range numbers() {
			holds(t, "PutUvarint", cursor.PutUvarint(b, v), b, plainUvarint(v))
		}
	}
}

func TestP7_2Lengths(t *testing.T) {
	for n := 1; n <= 10; n++ {
		least, most := uint64(1)<<(7*(n-1)), uint64(1)<<(7*n)-1
		if n == 1 {
			least = 0
		}
		for _, v := range []uint64{least, most} {
			if got := cursor.PutUvarint(nil, v); len(got) != n {
				t.Errorf("PutUvarint(%d) has %d bytes, want %d", v, len(got), n)
			}
		}
	}
}

func TestP7_3PutVarint(t *testing.T) {
	for _, b := range beginnings() {
		for _, v := range signed() {
			holds(t, "PutVarint", cursor.PutVarint(b, v), b, plainShort(plainFolded(v)))
		}
	}
}

func TestP7_3Ends(t *testing.T) {
	full := bytes.Repeat([]byte{255}, 9)
	for _, x := range []struct {
		v    int64
		want []byte
	}{
		{0, []byte{0}}, {-1, []byte{1}}, {1, []byte{2}}, {-2, []byte{3}}, {63, []byte{126}}, {-64, []byte{127}}, {64, []byte{128, 1}}, {-65, []byte{129, 1}},
		{-1 << 63, append(full[:9:9], 1)}, {1<<63 - 1, append([]byte{254}, append(full[:8:8], 1)...)},
	} {
		if got := cursor.PutVarint(nil, x.v); !slices.Equal(got, x.want) {
			t.Errorf("PutVarint(%d) = % X, want % X", x.v, got, x.want)
		}
	}
}

func TestP7_4PutBlock(t *testing.T) {
	r := byChance(2)
	for _, n := range []int{0, 1, 2, 126, 127, 128, 129, 300, 16383, 16384, 70000} {
		p := someBytes(r, n)
		for _, b := range beginnings() {
			holds(t, "PutBlock", cursor.PutBlock(b, p), b, plainBlock(p))
		}
	}
	holds(t, "PutBlock of none", cursor.PutBlock([]byte{4}, nil), []byte{4}, []byte{0})
}

func TestP7_4PutTexts(t *testing.T) {
	for _, l := range [][]string{nil, {}, {""}, {"a"}, {"", ""}, {"a", "", "bcd", "\x00\xFF"}, {strings.Repeat("x", 127)}, {strings.Repeat("y", 128), "z"}, slices.Repeat([]string{""}, 127), slices.Repeat([]string{"é"}, 128), slices.Repeat([]string{"ab", ""}, 10000)} {
		for _, b := range beginnings() {
			holds(t, "PutTexts", cursor.PutTexts(b, l...), b, plainTexts(l))
		}
	}
}

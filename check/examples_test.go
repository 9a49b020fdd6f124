package check_test

import (
	"slices"
	"testing"

	"colonnade/api"
	"colonnade/check"
)

// TestExamples: the chapter's table.
func TestExamples(t *testing.T) {
	for _, x := range []struct {
		b    string
		want uint32
	}{{"", 0}, {"123456789", 0xCBF43926}, {"a", 0xE8B7BE43}, {"\x00\x00\x00\x00", 0x2144DF1C}} {
		if got := check.Sum([]byte(x.b)); got != x.want {
			t.Errorf("Sum(%q) = %X, want %X", x.b, got, x.want)
		}
	}
	if got := check.More(check.Sum([]byte("1234")), []byte("56789")); got != 0xCBF43926 {
		t.Errorf("More of 1234 and 56789 = %X", got)
	}
	if got := check.More(5, nil); got != 5 {
		t.Errorf("More(5, none) = %X", got)
	}
	s := written([]byte("12"), []byte("3456789"))
	if s.Sum() != 0xCBF43926 || s.Len() != 9 {
		t.Errorf("a Stream: %X, %d", s.Sum(), s.Len())
	}
	if s.Reset(); s.Sum() != 0 || s.Len() != 0 {
		t.Errorf("a Stream after Reset: %X, %d", s.Sum(), s.Len())
	}
	for _, x := range []struct {
		b    string
		want uint64
	}{{"", 0xCBF29CE484222325}, {"a", 0xAF63DC4C8601EC8C}, {"b", 0xAF63DF4C8601F1A5}} {
		if got := check.Hash([]byte(x.b)); got != x.want {
			t.Errorf("Hash(%q) = %X, want %X", x.b, got, x.want)
		}
	}
}

func TestExamplesOfPlaces(t *testing.T) {
	for _, x := range []struct {
		h       uint64
		bits, k int
		want    []int
		e       api.Errno
	}{
		{0x0000000300000005, 8, 4, []int{5, 0, 3, 6}, api.OK},
		{0x0000000200000005, 8, 4, []int{5, 0, 3, 6}, api.OK},
		{5, 1, 3, []int{0, 0, 0}, api.OK},
		{5, 8, 0, nil, api.OK},
		{5, 12, 1, nil, api.ErrArg},
		{5, 0, 1, nil, api.ErrArg},
		{5, 8, -1, nil, api.ErrArg},
		{5, 8, 65, nil, api.ErrArg},
	} {
		if got, e := check.Places(x.h, x.bits, x.k); e != x.e || !slices.Equal(got, x.want) {
			t.Errorf("Places(%016X, %d, %d) = %v, %d, want %v, %d", x.h, x.bits, x.k, got, e, x.want, x.e)
		}
	}
}

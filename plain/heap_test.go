package plain

import (
	"slices"
	"strings"
	"testing"

	"colonnade/api"
)

// TestP8_3JustAllTogether: texts that have just 2^32 - 1 bytes may be put; asked within, since their bytes would be 4 GiB.
func TestP8_3JustAllTogether(t *testing.T) {
	l := slices.Repeat([]string{strings.Repeat("x", api.MaxText)}, 65537)
	if n, e := heapSize(l); n != 1<<32-1 || e != api.OK {
		t.Errorf("2^32 - 1 bytes: %d, %d", n, e)
	}
	if n, e := heapSize(append(l, "")); n != 1<<32-1 || e != api.OK {
		t.Errorf("2^32 - 1 bytes and an empty text: %d, %d", n, e)
	}
	if n, e := heapSize(append(l, "y")); n != 0 || e != api.ErrLarge {
		t.Errorf("2^32 bytes: %d, %d", n, e)
	}
}

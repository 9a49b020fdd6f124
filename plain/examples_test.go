package plain_test

import (
	"slices"
	"testing"

	"colonnade/api"
	"colonnade/plain"
)

// TestExamples: the chapter's table.
func TestExamples(t *testing.T) {
	numbers := []byte{1, 0, 0, 0, 0, 0, 0, 0, 254, 255, 255, 255, 255, 255, 255, 255}
	if got := plain.PutInts([]int64{1, -2}); !slices.Equal(got, numbers) {
		t.Errorf("PutInts(1 -2) = % X", got)
	}
	mustInts(t, numbers, 2, api.OK, 1, -2)
	mustInts(t, numbers, 1, api.ErrRest)
	mustInts(t, numbers, 3, api.ErrShort)
	mustInts(t, numbers, -1, api.ErrArg)

	texts := []byte{0, 0, 0, 0, 2, 0, 0, 0, 2, 0, 0, 0, 3, 0, 0, 0, 97, 98, 99}
	mustPutTexts(t, texts, "ab", "", "c")
	mustPutTexts(t, []byte{0, 0, 0, 0})
	mustTexts(t, []byte{0, 0, 0, 0}, 0, api.OK)
	mustTexts(t, nil, 0, api.ErrShort)
	mustTexts(t, []byte{1, 0, 0, 0, 1, 0, 0, 0, 97}, 1, api.ErrForm)
	mustTexts(t, []byte{0, 0, 0, 0, 2, 0, 0, 0, 97}, 1, api.ErrShort)
	mustTexts(t, []byte{0, 0, 0, 0, 0, 0, 0, 0, 97}, 1, api.ErrRest)

	mustIntAt(t, numbers, 1, -2, true)
	mustIntAt(t, numbers, 2, 0, false)
	mustIntAt(t, numbers, -1, 0, false)

	mustTextAt(t, texts, 3, 0, "ab", true)
	mustTextAt(t, texts, 3, 1, "", true)
	mustTextAt(t, texts, 3, 3, "", false)
	mustTextAt(t, texts, 2, 0, "\x03\x00", true)
}

package frame_test

import (
	"testing"

	"colonnade/api"
)

// TestExamples: the chapter's table.
func TestExamples(t *testing.T) {
	mustLift(t, -1, 3, 2)
	mustLift(t, 9223372036854775807, 1, -9223372036854775808)

	mustDrop(t, -1, 2, 3, true)
	mustDrop(t, 3, 2, 0, false)
	mustDrop(t, -9223372036854775808, 9223372036854775807, 18446744073709551615, true)

	mustFrameWidth(t, []int64{100, 103, 101}, 2)
	mustFrameWidth(t, []int64{7}, 0)
	mustFrameWidth(t, nil, 0)

	mustPackedWidth(t, []int64{100, 103}, 7, true)
	mustPackedWidth(t, []int64{-1}, 0, false)
	mustPackedWidth(t, nil, 0, true)

	b := []byte{100, 0, 0, 0, 0, 0, 0, 0, 28}
	mustPutFrame(t, []int64{100, 103, 101}, 2, b)
	mustNotPutFrame(t, []int64{100, 103}, 1, api.ErrUnfit)
	mustPutFrame(t, nil, 5, make([]byte, 8))
	mustNotPutFrame(t, []int64{1}, 65, api.ErrWidth)

	mustOpenFrame(t, b, 3, 2, 100, []byte{28})
	mustOpenFrame(t, b, 4, 2, 100, []byte{28})
	mustNotOpenFrame(t, b, 5, 2, api.ErrCut)
	mustNotOpenFrame(t, b, 3, 3, api.ErrCut)
	mustNotOpenFrame(t, []byte{100, 0, 0, 0, 0, 0, 0, 0, 1}, 1, 1, api.ErrForm)
	mustNotOpenFrame(t, []byte{1, 1, 1, 1, 1, 1, 1, 1}, 0, 0, api.ErrForm)

	mustPutPacked(t, []int64{5, 2}, 3, []byte{21})
	mustNotPutPacked(t, []int64{5}, 2, api.ErrUnfit)
	mustNotPutPacked(t, []int64{-1}, 64, api.ErrUnfit)

	mustValues(t, 100, []byte{28}, 3, 2, []int64{100, 103, 101})
	mustNotValues(t, 9223372036854775807, []byte{1}, 1, 1, api.ErrForm)
}

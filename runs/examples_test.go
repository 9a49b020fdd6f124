package runs_test

import (
	"testing"

	"colonnade/api"
)

// TestExamples: the chapter's table.
func TestExamples(t *testing.T) {
	mustFold(t, []int64{7, 7, 9, 7}, intRun{7, 2}, intRun{9, 1}, intRun{7, 1})

	mustUnfold(t, []intRun{{7, 2}, {7, 1}}, []int64{7, 7, 7})
	mustNotUnfold(t, []intRun{{7, 0}}, api.ErrRuns)
	mustNotUnfold(t, []intRun{{7, 1 << 62}, {7, 1 << 62}}, api.ErrLarge)
	mustNotUnfold(t, []intRun{{7, 1 << 62}, {7, -1}}, api.ErrRuns)

	l := []intRun{{7, 2}, {9, -3}, {8, 1}}
	mustAt(t, l, -1, 0, false)
	mustAt(t, l, 1, 7, true)
	mustAt(t, l, 2, 8, true)
	mustAt(t, l, 3, 0, false)

	mustPutInts(t, []int64{5, 5, -1}, []byte{2, 2, 10, 1, 1})
	mustPutInts(t, nil, []byte{0})
	mustPutTexts(t, []string{"a", "a", ""}, []byte{2, 2, 1, 97, 1, 0})

	b := []byte{2, 2, 10, 1, 1}
	mustInts(t, b, 3, []intRun{{5, 2}, {-1, 1}})
	mustNotInts(t, b, 2, api.ErrRuns)
	mustNotInts(t, b, 4, api.ErrRuns)
	mustNotInts(t, []byte{2, 2, 10, 1, 1, 0}, 3, api.ErrRest)
	mustNotInts(t, []byte{2, 2, 10}, 3, api.ErrShort)

	mustNotInts(t, []byte{1, 0, 10}, 0, api.ErrRuns)
	mustNotInts(t, []byte{2, 1, 10, 1, 10}, 2, api.ErrRuns)
	mustNotInts(t, []byte{129, 0}, 1, api.ErrForm)
	mustInts(t, []byte{0}, 0, nil)
	mustNotInts(t, []byte{0}, -1, api.ErrArg)
}

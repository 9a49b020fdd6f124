package dict_test

import (
	"math"
	"slices"
	"testing"

	"colonnade/api"
)

// eights are numbers of one byte, each in eight.
func eights(l ...byte) []byte {
	var b []byte
	for _, v := range l {
		b = append(b, v, 0, 0, 0, 0, 0, 0, 0)
	}
	return b
}

func join(l ...[]byte) []byte { return slices.Concat(l...) }

// TestExamples: the chapter's table.
func TestExamples(t *testing.T) {
	mustBuild(t, []int64{7, 3, 7, 5}, []int64{3, 5, 7}, 2, 0, 2, 1)
	mustBuild(t, []string{"b", "a"}, []string{"a", "b"}, 1, 0)
	mustBuild(t, []int64{}, nil)
	zero := math.Copysign(0, -1)
	mustBuild(t, []float64{0, zero, math.NaN(), math.NaN()}, []float64{math.NaN(), 0}, 1, 1, 0, 0)

	keys := []int{3, 5, 7}
	mustFloor(t, keys, 5, 1)
	mustFloor(t, keys, 6, 2)
	mustFloor(t, keys, 9, 3)
	mustFloor(t, nil, 1, 0)
	mustFind(t, keys, 5, 1, true)
	mustFind(t, keys, 6, 0, false)

	two := join([]byte{2}, eights(3, 7), []byte{5})
	mustPutInts(t, []int64{7, 3, 7}, two)
	mustPutInts(t, nil, []byte{0})
	mustPutInts(t, []int64{9, 9, 9}, join([]byte{1}, eights(9)))

	mustInts(t, two, 3, []int64{3, 7}, 1, []byte{5}, api.OK)
	mustNotInts(t, two, 2, api.ErrDict)
	mustInts(t, two, 4, []int64{3, 7}, 1, []byte{5}, api.OK)
	mustPutInts(t, []int64{7, 3, 7, 3}, two)
	mustNotInts(t, two, -1, api.ErrArg)
	mustInts(t, join([]byte{1}, eights(9)), 3, []int64{9}, 0, nil, api.OK)
	mustNotInts(t, join([]byte{1}, eights(9)), 0, api.ErrDict)
	mustNotInts(t, join([]byte{2}, eights(7, 3), []byte{5}), 3, api.ErrDict)
	mustNotInts(t, join([]byte{2}, eights(3, 7), []byte{0}), 3, api.ErrDict)
}

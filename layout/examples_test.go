package layout_test

import (
	"slices"
	"testing"

	"colonnade/api"
	"colonnade/layout"
)

// TestExamples: the chapter's table.
func TestExamples(t *testing.T) {
	two := exampleTable()
	with := func(c api.Codec) api.Layout {
		l := plainLayout(two, 2)
		l.Codecs[0][0] = c
		return l
	}
	noCodecs, seven := plainLayout(two, 2), plainLayout(two, 2)
	noCodecs.Codecs, seven.Blooms[0][0] = nil, 7
	mustCheck(t, two, plainLayout(two, 2), api.OK)
	mustCheck(t, two, plainLayout(two, 1), api.ErrLayout)
	mustCheck(t, two, plainLayout(two, 3, -1), api.ErrLayout)
	mustCheck(t, two, noCodecs, api.ErrLayout)
	mustCheck(t, two, seven, api.ErrLayout)
	mustCheck(t, two, with(codec(9, 0)), api.ErrLayout)

	wide, other := exampleTable(), exampleTable()
	wide.Rows[1] = row(num(5), num(6))
	other.Columns[0].Type = 3
	mustCheck(t, wide, plainLayout(two, 2), api.ErrTable)
	mustCheck(t, other, plainLayout(two, 2), api.ErrTable)

	if b := mustWrite(t, two, plainLayout(two, 2), api.OK); string(b[:4]) != "COL1" {
		t.Errorf("the first four bytes: %v", b[:4])
	}
	mustWrite(t, two, with(codec(api.Packed, 1)), api.ErrUnfit)
	mustWrite(t, two, with(codec(api.Packed, 3)), api.OK)

	if l, e := layout.Even(two, 0); e != api.ErrArg || !sameLayout(l, api.Layout{}) {
		t.Errorf("Even(t, 0): %s, %d", brief(l), e)
	}
	for rows, want := range map[int][]int{1: {1, 1}, 9: {2}} {
		if l, e := layout.Even(two, rows); e != api.OK || !slices.Equal(l.Groups, want) {
			t.Errorf("Even(t, %d): %s, %d", rows, brief(l), e)
		}
	}
}

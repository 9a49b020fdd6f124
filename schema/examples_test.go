package schema_test

import (
	"testing"

	"colonnade/api"
)

// TestExamples: the chapter's table.
func TestExamples(t *testing.T) {
	mustCheck(t, list(whole("a")), api.OK)
	mustCheck(t, nil, api.ErrSchema)
	mustCheck(t, list(whole("a"), words("a")), api.ErrSchema)
	mustCheck(t, list(whole("9a")), api.ErrSchema)
	mustCheck(t, list(whole("")), api.ErrSchema)
	mustCheck(t, list(api.Column{Name: "a_1", Type: api.Real}), api.ErrSchema)
	mustCheck(t, list(whole("é")), api.ErrSchema)
	mustCheck(t, list(whole("A"), whole("a")), api.OK)

	mustFind(t, list(whole("a"), whole("b"), whole("a")), "a", 0, true)
	mustFind(t, list(whole("a"), whole("b")), "c", 0, false)
	mustSame(t, list(whole("a")), list(nullable(whole("a"))), false)
	mustSame(t, nil, nil, true)

	both := list(whole("a"), nullable(words("b2")))
	mustPut(t, both, []byte{2, 1, 97, 1, 2, 98, 50, 6})
	mustTake(t, []byte{2, 1, 97, 1, 2, 98, 50, 6}, both)
	for _, b := range [][]byte{{0}, {1, 1, 97, 3}, {1, 1, 97, 9}, {1, 1, 97, 1, 0}, {129, 0, 1, 97, 1}} {
		mustNotTake(t, b)
	}
}

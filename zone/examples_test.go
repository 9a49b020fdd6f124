package zone_test

import (
	"testing"

	"colonnade/api"
)

// TestExamples: the chapter's table.
func TestExamples(t *testing.T) {
	i, s := api.Column{Name: "i", Type: api.Int, Null: true}, api.Column{Name: "t", Type: api.Text}
	values := list(num(3), null, num(9), num(3))
	mustOf(t, i, values, 0, api.Zone{Nulls: 1, Min: num(3), Max: num(9)})
	mustOf(t, i, list(null, null), 0, api.Zone{Nulls: 2})
	mustOf(t, s, nil, 8, api.Zone{Bloom: make([]byte, 8)})
	mustNotOf(t, s, list(null), 0, api.ErrValue)
	mustNotOf(t, s, words("x"), 7, api.ErrBloom)
	mustNotOf(t, api.Column{Name: "r", Type: api.Real}, nil, 0, api.ErrSchema)

	mustMay(t, i, 4, api.Zone{Nulls: 1, Min: num(3), Max: num(9)}, true)
	mustMay(t, i, 1, api.Zone{Nulls: 1, Min: num(3), Max: num(9)}, false)
	mustMay(t, i, 2, api.Zone{Nulls: 2}, true)
	mustMay(t, s, 3, api.Zone{Nulls: 1, Min: word("a"), Max: word("b")}, false)
	mustSound(t, i, values, api.Zone{Nulls: 1, Min: num(0), Max: num(10)}, true)
	mustSound(t, i, nums(3), api.Zone{Min: num(4), Max: num(9)}, false)
	mustSound(t, i, nums(3), api.Zone{}, false)

	mustPut(t, i, api.Zone{Nulls: 1, Min: num(-1), Max: num(9)}, []byte{1, 1, 1, 18, 0})
	mustPut(t, s, api.Zone{Min: word("a"), Max: word("bc")}, []byte{0, 1, 1, 97, 2, 98, 99, 0})
	mustNotPut(t, s, api.Zone{Min: word("b"), Max: word("a")}, api.ErrZone)
	mustNotPut(t, i, api.Zone{Max: num(3)}, api.ErrZone)

	mustTake(t, i, []byte{1, 1, 1, 18, 0, 7}, api.Zone{Nulls: 1, Min: num(-1), Max: num(9)}, api.OK, 1)
	mustTake(t, i, []byte{1, 2, 7}, api.Zone{}, api.ErrZone, 1)
	mustTake(t, i, []byte{1, 1, 1}, api.Zone{}, api.ErrShort, 0)
	mustTake(t, i, []byte{0, 1, 18, 1, 0}, api.Zone{}, api.ErrZone, 0)
}

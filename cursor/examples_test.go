package cursor_test

import (
	"bytes"
	"slices"
	"testing"

	"colonnade/api"
	"colonnade/cursor"
)

// TestExamples: the chapter's table.
func TestExamples(t *testing.T) {
	nines := bytes.Repeat([]byte{255}, 9)
	for i, x := range []struct{ got, want []byte }{
		{cursor.Put(nil, uint16(258)), []byte{2, 1}},
		{cursor.Put([]byte{9}, uint8(7)), []byte{9, 7}},
		{cursor.PutUvarint(nil, 0), []byte{0}},
		{cursor.PutUvarint(nil, 127), []byte{127}},
		{cursor.PutUvarint(nil, 128), []byte{128, 1}},
		{cursor.PutUvarint(nil, 300), []byte{172, 2}},
		{cursor.PutUvarint(nil, 1<<64-1), append(slices.Clone(nines), 1)},
		{cursor.PutVarint(nil, -2), []byte{3}},
		{cursor.PutBlock(nil, []byte{5, 6}), []byte{2, 5, 6}},
		{cursor.PutTexts(nil), []byte{0}},
		{cursor.PutTexts(nil, "a", ""), []byte{2, 1, 97, 0}},
	} {
		if !slices.Equal(x.got, x.want) {
			t.Errorf("Put number %d: % X, want % X", i, x.got, x.want)
		}
	}
	for _, x := range []struct {
		b      []byte
		q      asked
		answer string
		left   int
		fault  api.Errno
		end    api.Errno
	}{
		{[]byte{2, 1}, asked{call: "uint16"}, "258", 0, api.OK, api.OK},
		{[]byte{2, 1}, asked{call: "uint32"}, "0", 2, api.ErrShort, api.ErrShort},
		{[]byte{128, 0}, asked{call: "Uvarint"}, "0", 2, api.ErrForm, api.ErrForm},
		{[]byte{128}, asked{call: "Uvarint"}, "0", 1, api.ErrShort, api.ErrShort},
		{bytes.Repeat([]byte{255}, 10), asked{call: "Uvarint"}, "0", 10, api.ErrForm, api.ErrForm},
		{append(bytes.Repeat([]byte{128}, 9), 1), asked{call: "Uvarint"}, "9223372036854775808", 0, api.OK, api.OK},
		{[]byte{3}, asked{call: "Varint"}, "-2", 0, api.OK, api.OK},
		{[]byte{2, 5, 6, 7}, asked{"Block", 2, 0}, "0506", 1, api.OK, api.ErrRest},
		{[]byte{2, 5, 6, 7}, asked{"Block", 1, 0}, "", 4, api.ErrForm, api.ErrForm},
		{[]byte{2, 1, 97, 0}, asked{"Texts", 2, 1}, `["a" ""]`, 0, api.OK, api.OK},
		{[]byte{2, 1, 97, 1}, asked{"Texts", 2, 1}, "[]", 4, api.ErrShort, api.ErrShort},
		{[]byte{1}, asked{"Bytes", -1, 0}, "", 1, api.ErrArg, api.ErrArg},
		{nil, asked{"Bytes", 0, 0}, "", 0, api.OK, api.OK},
	} {
		r := cursor.Open(x.b)
		if got := read(r, x.q); got != x.answer || r.Left() != x.left || r.Fault() != x.fault || r.End() != x.end {
			t.Errorf("%v of % X: %s, Left %d, Fault %d, End %d", x.q, x.b, got, r.Left(), r.Fault(), r.End())
		}
	}
	r := cursor.Open([]byte{2, 1})
	if cursor.Take[uint32](r) != 0 || cursor.Take[uint8](r) != 0 || r.Fault() != api.ErrShort || r.Left() != 2 {
		t.Errorf("Take uint8 behind a fault: Fault %d, Left %d", r.Fault(), r.Left())
	}
}

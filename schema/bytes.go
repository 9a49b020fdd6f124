package schema

import (
	"colonnade/api"
	"colonnade/cursor"
)

// nullMark is what a column's byte has above its Type, if nulls may stand in it.
const nullMark uint8 = 4

// Put: P15.3.
func Put(cols []api.Column) ([]byte, api.Errno) {
	if e := Check(cols); e != api.OK {
		return nil, e
	}
	b := cursor.PutUvarint(nil, uint64(len(cols)))
	for _, c := range cols {
		b = cursor.PutBlock(b, []byte(c.Name))
		b = cursor.Put(b, markOf(c))
	}
	return b, api.OK
}

// Take: P15.4.
func Take(b []byte) ([]api.Column, api.Errno) {
	r := cursor.Open(b)
	n := r.Uvarint()
	// The number is looked at ahead of room being made for so many.
	if n > api.MaxColumns {
		return nil, api.ErrSchema
	}
	cols := make([]api.Column, n)
	for i := range cols {
		cols[i] = takeColumn(r)
	}
	if r.End() != api.OK || Check(cols) != api.OK {
		return nil, api.ErrSchema
	}
	return cols, api.OK
}

// markOf is the byte of a column that may be.
func markOf(c api.Column) uint8 {
	if c.Null {
		return uint8(c.Type) + nullMark
	}
	return uint8(c.Type)
}

// takeColumn is the next column, which may be none that may be: a byte that is no column's mark leaves a Type that Check refuses, and so does a fault, which is seen at the end besides.
func takeColumn(r *cursor.Reader) api.Column {
	name := r.Block(api.MaxName)
	mark := cursor.Take[uint8](r)
	return api.Column{Name: string(name), Type: int(mark &^ nullMark), Null: mark&nullMark != 0}
}

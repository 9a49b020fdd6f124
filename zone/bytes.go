package zone

import (
	"colonnade/api"
	"colonnade/cursor"
	"colonnade/value"
)

// The byte behind Nulls: whether Min and Max follow.
const (
	withoutEnds uint8 = 0
	withEnds    uint8 = 1
)

// Put: P14.4.
func Put(col api.Column, z api.Zone) ([]byte, api.Errno) {
	if !isGood(col) {
		return nil, api.ErrSchema
	}
	if !mayBe(col, z) {
		return nil, api.ErrZone
	}
	b := cursor.PutUvarint(nil, uint64(z.Nulls))
	if isNull(z.Min) {
		b = cursor.Put(b, withoutEnds)
	} else {
		b = cursor.Put(b, withEnds)
		b = putValue(b, z.Min)
		b = putValue(b, z.Max)
	}
	return cursor.PutBlock(b, z.Bloom), api.OK
}

// Take: P14.5.
func Take(col api.Column, r *cursor.Reader) (api.Zone, api.Errno) {
	if !isGood(col) {
		return api.Zone{}, api.ErrSchema
	}
	if r == nil {
		return api.Zone{}, api.ErrNil
	}
	nulls := r.Uvarint()
	mark := cursor.Take[uint8](r)
	if mark > withEnds {
		return api.Zone{}, api.ErrZone
	}
	var z api.Zone
	if mark == withEnds {
		z.Min = takeValue(col, r)
		z.Max = takeValue(col, r)
	}
	z.Bloom = r.Block(api.MaxBloom)
	if e := r.Fault(); e != api.OK {
		return api.Zone{}, e
	}
	// Nulls is looked at ahead of becoming an int, which may not hold it.
	if nulls > api.MaxRows {
		return api.Zone{}, api.ErrZone
	}
	z.Nulls = int(nulls)
	if !mayBe(col, z) {
		return api.Zone{}, api.ErrZone
	}
	return z, api.OK
}

// putValue is the bytes of b, and behind them a value that is an Int or a Text.
func putValue(b []byte, v api.Value) []byte {
	if v.Kind == api.Int {
		return cursor.PutVarint(b, v.Int)
	}
	return cursor.PutBlock(b, []byte(v.Text))
}

// takeValue is the next value of a good column. Behind a fault it tells nothing, and the fault is seen at the record's end.
func takeValue(col api.Column, r *cursor.Reader) api.Value {
	if col.Type == api.Int {
		return value.Int(r.Varint())
	}
	return value.Text(string(r.Block(api.MaxText)))
}

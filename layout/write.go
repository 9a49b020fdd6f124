package layout

import (
	"slices"

	"colonnade/api"
	"colonnade/check"
	"colonnade/chunk"
	"colonnade/cursor"
	"colonnade/schema"
	"colonnade/zone"
)

// Write: P16.2.
func Write(t api.Table, l api.Layout) ([]byte, api.Errno) {
	if e := Check(t, l); e != api.OK {
		return nil, e
	}
	w := writer{directory: cursor.PutUvarint(nil, uint64(len(l.Groups)))}
	rest := t.Rows
	for g, n := range l.Groups {
		if e := w.addGroup(t.Columns, rest[:n], l.Codecs[g], l.Blooms[g]); e != api.OK {
			return nil, e
		}
		rest = rest[n:]
	}
	// Columns of a table that may be have a form.
	header, _ := schema.Put(t.Columns)
	return slices.Concat(prelude(header, w.directory), withSum(header), withSum(w.directory), w.chunks), api.OK
}

// writer gathers what grows with the row groups: it is added to in place, for layer 7 would copy all of it at each number.
type writer struct {
	directory, chunks []byte
}

func (w *writer) addGroup(cols []api.Column, rows [][]api.Value, codecs []api.Codec, blooms []int) api.Errno {
	w.directory = append(w.directory, cursor.PutUvarint(nil, uint64(len(rows)))...)
	for c, col := range cols {
		if e := w.addChunk(col, valuesOf(rows, c), codecs[c], blooms[c]); e != api.OK {
			return e
		}
	}
	return api.OK
}

func (w *writer) addChunk(col api.Column, l []api.Value, codec api.Codec, bloom int) api.Errno {
	b, e := chunk.Encode(col, l, codec)
	if e != api.OK {
		return api.ErrUnfit
	}
	// Values of the column and a size that may be have a record, and that one has bytes.
	z, _ := zone.Of(col, l, bloom)
	record, _ := zone.Put(col, z)
	length := cursor.PutUvarint(nil, uint64(len(b)))
	w.directory = append(w.directory, cursor.Put(length, check.Sum(b))...)
	w.directory = append(w.directory, record...)
	w.chunks = append(w.chunks, b...)
	return api.OK
}

// prelude tells where the header and the directory end, neither with its Sum.
func prelude(header, directory []byte) []byte {
	first := [4]byte{'C', 'O', 'L', '1'}
	b := cursor.Put(first[:], uint32(len(header)))
	return withSum(cursor.Put(b, uint32(len(directory))))
}

// withSum is bytes and their Sum behind them.
func withSum(b []byte) []byte { return cursor.Put(b, check.Sum(b)) }

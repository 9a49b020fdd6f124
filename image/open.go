package image

import (
	"colonnade/api"
	"colonnade/check"
	"colonnade/chunk"
	"colonnade/cursor"
	"colonnade/schema"
	"colonnade/value"
	"colonnade/zone"
)

// preludeSize is how many bytes the prelude has, its Sum apart.
const preludeSize = 12

// Valid: P17.1.
func Valid(b []byte) bool {
	_, is := read(b)
	return is
}

// Open: P17.2.
func Open(b []byte) (*Image, api.Errno) {
	m, is := read(b)
	if !is {
		return nil, api.ErrMalformed
	}
	return &m, api.OK
}

// read is the image that the bytes are, if they are one.
func read(b []byte) (Image, bool) {
	r := cursor.Open(b)
	headerSize, directorySize, is := takePrelude(r)
	if !is {
		return Image{}, false
	}
	columns, is := takeColumns(r, headerSize)
	if !is {
		return Image{}, false
	}
	directory, is := takeSummed(r, directorySize)
	if !is {
		return Image{}, false
	}
	groups, is := takeGroups(columns, cursor.Open(directory), r)
	return Image{columns: columns, groups: groups}, is
}

// takePrelude tells how many bytes the header and the directory have, their Sums apart.
func takePrelude(r *cursor.Reader) (header, directory uint32, is bool) {
	b, is := takeSummed(r, preludeSize)
	if !is || [4]byte(b[:4]) != [4]byte{'C', 'O', 'L', '1'} {
		return 0, 0, false
	}
	sizes := cursor.Open(b[4:])
	header = cursor.Take[uint32](sizes)
	directory = cursor.Take[uint32](sizes)
	return header, directory, true
}

func takeColumns(r *cursor.Reader, size uint32) ([]api.Column, bool) {
	b, is := takeSummed(r, size)
	if !is {
		return nil, false
	}
	columns, e := schema.Take(b)
	return columns, e == api.OK
}

// takeSummed takes so many bytes and the Sum behind them, if it is theirs.
func takeSummed(r *cursor.Reader, size uint32) ([]byte, bool) {
	b := r.Bytes(int(size))
	sum := cursor.Take[uint32](r)
	// The fault is asked for on its own, because no bytes have the Sum 0.
	return b, r.Fault() == api.OK && check.Sum(b) == sum
}

// takeGroups reads the directory and the chunks side by side, to the end of both. How many rows there are is held against what may be ahead of any chunk being opened, because a chunk of a few bytes can have very many.
func takeGroups(columns []api.Column, directory, chunks *cursor.Reader) ([]group, bool) {
	count := directory.Uvarint()
	if count > api.MaxGroups {
		return nil, false
	}
	left := uint64(min(api.MaxRows, api.MaxCells/len(columns)))
	var groups []group
	for range count {
		rows := directory.Uvarint()
		if rows > left {
			return nil, false
		}
		left -= rows
		parts, is := takeParts(columns, int(rows), directory, chunks)
		if !is {
			return nil, false
		}
		groups = append(groups, group{rows: int(rows), parts: parts})
	}
	return groups, directory.End() == api.OK && chunks.End() == api.OK
}

// takeParts are those of a row group of so many rows.
func takeParts(columns []api.Column, rows int, directory, chunks *cursor.Reader) ([]part, bool) {
	parts := make([]part, len(columns))
	for c, col := range columns {
		p, is := takePart(col, rows, directory, chunks)
		if !is {
			return nil, false
		}
		parts[c] = p
	}
	return parts, true
}

// takePart is what the directory says next, and the chunk of which it says so, if that is true. A fault of the directory's reader, wherever it came from, is told by the record that is taken behind it.
func takePart(col api.Column, rows int, directory, chunks *cursor.Reader) (part, bool) {
	size := directory.Uvarint()
	sum := cursor.Take[uint32](directory)
	z, e := zone.Take(col, directory)
	// The size is looked at ahead of becoming an int, which may not hold it.
	if e != api.OK || size > uint64(chunks.Left()) {
		return part{}, false
	}
	b := chunks.Bytes(int(size))
	if check.Sum(b) != sum {
		return part{}, false
	}
	c, e := chunk.Open(col, rows, b)
	if e != api.OK || !zone.Sound(col, witnesses(c), z) {
		return part{}, false
	}
	return part{zone: z, chunk: c}, true
}

// witnesses are values of which a record is sound just if it is sound of all that the chunk has: each Null, and every other value once at least. A text that a dictionary or a run tells once stands here once, so that a long one is not gone through again at each of its rows.
func witnesses(c *chunk.Chunk) []api.Value {
	l := make([]api.Value, c.Rows()-c.Count())
	switch x := c.Body().(type) {
	case chunk.TextDict:
		for _, key := range x.Keys {
			l = append(l, value.Text(key))
		}
	case chunk.TextRuns:
		for _, run := range x.Runs {
			l = append(l, value.Text(run.Value))
		}
	default:
		l = c.Values()
	}
	return l
}

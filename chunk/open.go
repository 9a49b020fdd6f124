package chunk

import (
	"colonnade/api"
	"colonnade/bits"
	"colonnade/cursor"
	"colonnade/dict"
	"colonnade/frame"
	"colonnade/pack"
	"colonnade/plain"
	"colonnade/runs"
)

// Open: P12.3.
func Open(col api.Column, rows int, b []byte) (*Chunk, api.Errno) {
	switch {
	case !good(col):
		return nil, api.ErrSchema
	case rows < 0:
		return nil, api.ErrArg
	case rows > api.MaxRows:
		return nil, api.ErrLarge
	}
	c, is := read(col, rows, b)
	if !is {
		return nil, api.ErrChunk
	}
	return &c, api.OK
}

// read is the chunk whose form b is, if it is one.
func read(col api.Column, rows int, b []byte) (Chunk, bool) {
	r := cursor.Open(b)
	kind, width := cursor.Take[uint8](r), cursor.Take[uint8](r)
	codec := api.Codec{Kind: int(kind), Width: int(width)}
	nulls, is := readNulls(r, rows)
	if !is || !isCodecOf(col, codec) || nulls.Count() > 0 && !col.Null {
		return Chunk{}, false
	}
	body, e := readBody(col, codec, r.Bytes(r.Left()), rows-nulls.Count())
	if e != api.OK {
		return Chunk{}, false
	}
	return Chunk{column: col, codec: codec, nulls: nulls, body: body}, true
}

// readNulls takes the nulls of so many rows: how many they are, and, if there is one, which.
func readNulls(r *cursor.Reader, rows int) (*bits.Set, bool) {
	count := r.Uvarint()
	var lane []byte
	if count > 0 {
		size, _ := pack.Bytes(rows, 1)
		lane = r.Bytes(size)
	}
	words := make([]uint64, (rows+63)/64)
	for i := range words {
		words[i] = pack.Word(lane, i*64)
	}
	// Load refuses a bit behind the last row.
	nulls, e := bits.Load(rows, words)
	return nulls, e == api.OK && r.Fault() == api.OK && uint64(nulls.Count()) == count
}

// readBody is what the codec's bytes of n dense values stand as; the layer below says whether they are such bytes.
func readBody(col api.Column, c api.Codec, b []byte, n int) (Body, api.Errno) {
	if col.Type == api.Int {
		return readInts(c, b, n)
	}
	return readTexts(c, b, n)
}

func readInts(c api.Codec, b []byte, n int) (Body, api.Errno) {
	switch c.Kind {
	case api.Plain:
		l, e := plain.Ints(b, n)
		return IntPlain{Values: l}, e
	case api.Dict:
		keys, width, codes, e := dict.Ints(b, n)
		return IntDict{Keys: keys, Codes: codes, Width: width, N: n}, e
	case api.Runs:
		l, e := runs.Ints(b, n)
		return IntRuns{Runs: l}, e
	case api.Frame:
		base, lanes, e := frame.OpenFrame(b, n, c.Width)
		return IntFrame{Base: base, Lanes: lanes, Width: c.Width, N: n}, e
	}
	lanes, e := frame.OpenPacked(b, n, c.Width)
	return IntFrame{Lanes: lanes, Width: c.Width, N: n}, e
}

func readTexts(c api.Codec, b []byte, n int) (Body, api.Errno) {
	switch c.Kind {
	case api.Plain:
		l, e := plain.Texts(b, n)
		return TextPlain{Values: l}, e
	case api.Dict:
		keys, width, codes, e := dict.Texts(b, n)
		return TextDict{Keys: keys, Codes: codes, Width: width, N: n}, e
	}
	l, e := runs.Texts(b, n)
	return TextRuns{Runs: l}, e
}

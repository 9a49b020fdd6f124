package cursor

// Put: P7.1.
func Put[T Unsigned](b []byte, v T) []byte {
	n := width[T]()
	out := ahead(b, n)
	for i := range n {
		out = append(out, byte(uint64(v)>>(8*i)))
	}
	return out
}

// PutUvarint: P7.2.
func PutUvarint(b []byte, v uint64) []byte {
	return addShort(ahead(b, longest), v)
}

// PutVarint: P7.3.
func PutVarint(b []byte, v int64) []byte {
	return PutUvarint(b, folded(v))
}

// PutBlock: P7.4.
func PutBlock(b, p []byte) []byte {
	out := addShort(ahead(b, longest+len(p)), uint64(len(p)))
	return append(out, p...)
}

// PutTexts: P7.4.
func PutTexts(b []byte, texts ...string) []byte {
	out := addShort(ahead(b, longest), uint64(len(texts)))
	for _, t := range texts {
		out = addShort(out, uint64(len(t)))
		out = append(out, t...)
	}
	return out
}

// ahead is the bytes of b with room for so many behind them: never b's own room, which the caller may have filled.
func ahead(b []byte, room int) []byte {
	return append(make([]byte, 0, len(b)+room), b...)
}

// addShort adds the short form of v to out, which is the writer's own.
func addShort(out []byte, v uint64) []byte {
	for ; v > 127; v >>= 7 {
		out = append(out, byte(v)|128)
	}
	return append(out, byte(v))
}

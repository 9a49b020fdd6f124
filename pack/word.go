package pack

// Word: P2.6.
func Word(b []byte, bit int) uint64 {
	if bit <= -maxWidth {
		return 0
	}
	if bit < 0 {
		return eight(b) << uint(-bit)
	}
	at, shift := bit/8, uint(bit%8)
	if at >= len(b) {
		return 0
	}
	b = b[at:]
	word := eight(b) >> shift
	if len(b) > 8 {
		// Of a word that begins with a whole byte nothing is missing: the shift by 64 leaves 0.
		word |= uint64(b[8]) << (maxWidth - shift)
	}
	return word
}

// eight is the first eight bytes, the first one lowest; those that b has not are 0.
func eight(b []byte) uint64 {
	if len(b) >= 8 {
		return uint64(b[0]) | uint64(b[1])<<8 | uint64(b[2])<<16 | uint64(b[3])<<24 |
			uint64(b[4])<<32 | uint64(b[5])<<40 | uint64(b[6])<<48 | uint64(b[7])<<56
	}
	var word uint64
	for i, v := range b {
		word |= uint64(v) << uint(8*i)
	}
	return word
}

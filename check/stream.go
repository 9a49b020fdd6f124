package check

// tally is how many bytes were written, and the register that went over them. Its bits are kept turned: so the zero value is the tally of no bytes.
type tally struct {
	count  uint64
	turned uint32
}

// Stream sums what is written to it.
type Stream struct{ tally }

// Write: P6.3.
func (s *Stream) Write(b []byte) {
	if s == nil {
		return
	}
	s.turned = More(s.turned, b)
	s.count += uint64(len(b))
}

// Sum: P6.3.
func (s *Stream) Sum() uint32 {
	if s == nil {
		return 0
	}
	return s.turned
}

// Len: P6.3.
func (s *Stream) Len() uint64 {
	if s == nil {
		return 0
	}
	return s.count
}

// Reset: P6.3.
func (s *Stream) Reset() {
	if s == nil {
		return
	}
	s.tally = tally{}
}

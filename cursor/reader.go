package cursor

import (
	"slices"

	"colonnade/api"
)

// Reader reads bytes from their beginning on. Its zero value is a reader of no bytes.
type Reader struct {
	left  rest
	fault api.Errno
}

// Open: P7.5.
func Open(b []byte) *Reader { return &Reader{left: slices.Clone(b)} }

// Take: P7.6.
func Take[T Unsigned](r *Reader) T { return reading(r, number[T]) }

// Uvarint: P7.7.
func (r *Reader) Uvarint() uint64 { return reading(r, short) }

// Varint: P7.7.
func (r *Reader) Varint() int64 {
	return reading(r, func(l *rest) int64 { return unfolded(short(l)) })
}

// Bytes: P7.8.
func (r *Reader) Bytes(n int) []byte {
	return reading(r, func(l *rest) []byte { return slices.Clone(l.cut(natural(n))) })
}

// Block: P7.8.
func (r *Reader) Block(most int) []byte {
	return reading(r, func(l *rest) []byte { return slices.Clone(block(l, natural(most))) })
}

// Texts: P7.8.
func (r *Reader) Texts(most, each int) []string {
	return reading(r, func(l *rest) []string { return texts(l, natural(most), natural(each)) })
}

// Left: P7.9.
func (r *Reader) Left() int {
	if r == nil {
		return 0
	}
	return len(r.left)
}

// Fault: P7.9.
func (r *Reader) Fault() api.Errno {
	if r == nil {
		return api.ErrNil
	}
	return r.fault
}

// End: P7.9.
func (r *Reader) End() api.Errno {
	if e := r.Fault(); e != api.OK {
		return e
	}
	if r.Left() > 0 {
		return api.ErrRest
	}
	return api.OK
}

// reading is the face of every reading: step takes from a copy of what is left, which counts only if step comes to its end; what step gives up with is the fault.
func reading[A any](r *Reader, step func(*rest) A) (answer A) {
	if r.Fault() != api.OK {
		return answer
	}
	left := r.left
	defer func() {
		if why := recover(); why != nil {
			r.fault = why.(api.Errno)
		}
	}()
	answer = step(&left)
	r.left = left
	return answer
}

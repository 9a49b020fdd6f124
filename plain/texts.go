package plain

import "colonnade/api"

// PutTexts: P8.3.
func PutTexts(l []string) ([]byte, api.Errno) {
	size, e := heapSize(l)
	if e != api.OK {
		return nil, e
	}
	ends := endsSize(len(l))
	out := make([]byte, ends+size)
	heap, at := out[ends:], 0
	for i, s := range l {
		at += copy(heap[at:], s)
		end := lowestFirst(uint64(at))
		copy(out[(i+1)*endSize:ends], end[:endSize])
	}
	return out, api.OK
}

// Texts: P8.4.
func Texts(b []byte, n int) ([]string, api.Errno) {
	if e := mayCount(n); e != api.OK {
		return nil, e
	}
	s, is := openShelf(b, n)
	if !is {
		return nil, api.ErrShort
	}
	if !s.endsMayBe(n) {
		return nil, api.ErrForm
	}
	if e := justAsMany(s.heap, s.end(n)); e != api.OK {
		return nil, e
	}
	l := make([]string, n)
	for i := range l {
		l[i], _ = s.text(i)
	}
	return l, api.OK
}

// TextAt: P8.6.
func TextAt(b []byte, n, i int) (string, bool) {
	if mayCount(n) != api.OK || i < 0 || i >= n {
		return "", false
	}
	s, is := openShelf(b, n)
	if !is {
		return "", false
	}
	return s.text(i)
}

// heapSize is how many bytes the texts have together, if they may be put.
func heapSize(l []string) (int, api.Errno) {
	if len(l) > api.MaxRows {
		return 0, api.ErrLarge
	}
	size := 0
	for _, s := range l {
		// Held against what is left, so that the sum never goes beyond an end.
		if len(s) > min(api.MaxText, mostHeap-size) {
			return 0, api.ErrLarge
		}
		size += len(s)
	}
	return size, api.OK
}

// endsSize is how many bytes the ends of n texts take.
func endsSize(n int) int { return (n + 1) * endSize }

// shelf is texts as they stand in bytes: their ends, and the heap that is whatever stands behind them.
type shelf struct {
	ends, heap []byte
}

// openShelf is the shelf of n texts, if b has all their ends.
func openShelf(b []byte, n int) (shelf, bool) {
	at := endsSize(n)
	if len(b) < at {
		return shelf{}, false
	}
	return shelf{ends: b[:at:at], heap: b[at:]}, true
}

// end is the end number i.
func (s shelf) end(i int) uint64 {
	at := i * endSize
	return number(s.ends[at : at+endSize])
}

// endsMayBe says whether the ends of n texts begin at 0, and each text has a length that it may have.
func (s shelf) endsMayBe(n int) bool {
	ahead := s.end(0)
	if ahead != 0 {
		return false
	}
	for i := range n {
		end := s.end(i + 1)
		if end < ahead || end-ahead > api.MaxText {
			return false
		}
		ahead = end
	}
	return true
}

// text is the text number i, if the heap has it.
func (s shelf) text(i int) (string, bool) {
	from, to := s.end(i), s.end(i+1)
	if from > to || to > uint64(len(s.heap)) {
		return "", false
	}
	return string(s.heap[from:to:to]), true
}

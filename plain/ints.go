package plain

import "colonnade/api"

// PutInts: P8.1.
func PutInts(l []int64) []byte {
	out := make([]byte, len(l)*intSize)
	for i, v := range l {
		a := lowestFirst(uint64(v))
		copy(out[i*intSize:], a[:])
	}
	return out
}

// Ints: P8.2.
func Ints(b []byte, n int) ([]int64, api.Errno) {
	if e := mayCount(n); e != api.OK {
		return nil, e
	}
	if e := justAsMany(b, uint64(n)*intSize); e != api.OK {
		return nil, e
	}
	l := make([]int64, n)
	for i := range l {
		l[i] = intAt(b, i)
	}
	return l, api.OK
}

// IntAt: P8.5.
func IntAt(b []byte, i int) (int64, bool) {
	// Counted in whole numbers, not in bytes: 8 * i may be beyond the greatest int.
	if i < 0 || i >= len(b)/intSize {
		return 0, false
	}
	return intAt(b, i), true
}

// intAt is the number in place i, which is there.
func intAt(b []byte, i int) int64 {
	at := i * intSize
	return int64(number(b[at : at+intSize]))
}

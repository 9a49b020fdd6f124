package runs

import (
	"colonnade/api"
	"colonnade/cursor"
)

// PutInts: P10.4.
func PutInts(l []int64) []byte { return put(l, cursor.PutVarint) }

// PutTexts: P10.4.
func PutTexts(l []string) []byte {
	return put(l, func(b []byte, v string) []byte { return cursor.PutBlock(b, []byte(v)) })
}

// Ints: P10.5.
func Ints(b []byte, n int) ([]Run[int64], api.Errno) {
	return read(b, n, (*cursor.Reader).Varint)
}

// Texts: P10.5.
func Texts(b []byte, n int) ([]Run[string], api.Errno) {
	return read(b, n, func(r *cursor.Reader) string { return string(r.Block(api.MaxText)) })
}

// leastRun is how many bytes a run has at the least: one for its N, one for its value.
const leastRun = 2

// put is the bytes of Fold(l), a value behind its N by putValue.
func put[T comparable](l []T, putValue func([]byte, T) []byte) []byte {
	folded := Fold(l)
	out := cursor.PutUvarint(nil, uint64(len(folded)))
	for _, r := range folded {
		// Each run is put by itself: behind all those ahead of it they would be copied each time.
		out = append(out, putValue(cursor.PutUvarint(nil, uint64(r.N)), r.Value)...)
	}
	return out
}

// read is the runs of n values whose bytes are b, a value taken by takeValue.
func read[T comparable](b []byte, n int, takeValue func(*cursor.Reader) T) ([]Run[T], api.Errno) {
	if n < 0 || n > api.MaxRows {
		return nil, api.ErrArg
	}
	r := cursor.Open(b)
	runs := r.Uvarint()
	if e := r.Fault(); e != api.OK {
		return nil, e
	}
	missing := uint64(n)
	// How many runs there are is not believed ahead of their bytes: room is made for as many as the bytes and n can hold, and the first one that is not there ends the walk.
	out := make([]Run[T], 0, min(runs, uint64(r.Left()/leastRun), missing))
	for range runs {
		often := r.Uvarint()
		v := takeValue(r)
		if e := r.Fault(); e != api.OK {
			return nil, e
		}
		if often < 1 || often > missing || len(out) > 0 && alike(out[len(out)-1].Value, v) {
			return nil, api.ErrRuns
		}
		missing -= often
		out = append(out, Run[T]{Value: v, N: int(often)})
	}
	if missing > 0 {
		return nil, api.ErrRuns
	}
	if e := r.End(); e != api.OK {
		return nil, e
	}
	return out, api.OK
}

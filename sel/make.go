package sel

import (
	"colonnade/api"
	"colonnade/bits"
)

// share is how many rows there are at least for each chosen one where a list is kept.
const share = 32

// Make: P4.2.
func Make(s *bits.Set) Sel { return own(s.Clone()) }

// At: P4.3.
func At(n int, at []int) (Sel, api.Errno) {
	if n < 0 || n > api.MaxRows {
		return nil, api.ErrArg
	}
	if !areRows(n, at) {
		return nil, api.ErrIndex
	}
	return own(setOf(n, at)), api.OK
}

// Whole: P4.3.
func Whole(n int) Sel { return own(bits.New(n).Not()) }

// None: P4.3.
func None(n int) Sel { return own(bits.New(n)) }

// areRows is whether at rises and stays within n rows.
func areRows(n int, at []int) bool {
	least := 0
	for _, i := range at {
		if i < least || i >= n {
			return false
		}
		least = i + 1
	}
	return true
}

// setOf is the set of the length n that holds these rows, all of which are below n.
func setOf(n int, rows []int) *bits.Set {
	s := bits.New(n)
	putAll(s, rows)
	return s
}

func putAll(s *bits.Set, rows []int) {
	for _, i := range rows {
		s.Put(i, true)
	}
}

// own is the selection of what s holds, in the form that every answer has. It keeps s, which nobody else may have.
func own(s *bits.Set) Sel {
	if s == nil {
		return nil
	}
	d := Dense{s}
	if share*d.Count() > d.Len() {
		return d
	}
	return Sparse{made: true, length: d.Len(), rows: d.List()}
}

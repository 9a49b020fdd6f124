package sel

import (
	"slices"

	"colonnade/api"
	"colonnade/bits"
)

// Meet: P4.4.
func Meet(a Sel, more ...Sel) (Sel, api.Errno) { return together(meet, a, more) }

// Join: P4.4.
func Join(a Sel, more ...Sel) (Sel, api.Errno) { return together(join, a, more) }

// Less: P4.4.
func Less(a, b Sel) (Sel, api.Errno) { return together(less, a, []Sel{b}) }

// Not: P4.4.
func Not(a Sel) Sel {
	if !there(a) {
		return nil
	}
	return own(a.Bits().Not())
}

// Same: P4.5.
func Same(a, b Sel) bool {
	if !there(a) || !there(b) {
		return !there(a) && !there(b)
	}
	return a.Len() == b.Len() && slices.Equal(a.Bits().Words(), b.Bits().Words())
}

// Cut: P4.5.
func Cut(a Sel, from, to int) Sel {
	if !there(a) {
		return nil
	}
	return own(a.Bits().Slice(from, to))
}

// together puts what is more to a, one behind the other. It begins with a selection of its own, so that not even of a alone the answer shares anything with it.
func together(put func(a, b Sel) Sel, a Sel, more []Sel) (Sel, api.Errno) {
	if e := fault(a, more); e != api.OK {
		return nil, e
	}
	made := own(a.Bits())
	for _, b := range more {
		made = put(made, b)
	}
	return made, api.OK
}

// fault is why a and what is more cannot be put together. Whether all are there is asked ahead of any length.
func fault(a Sel, more []Sel) api.Errno {
	if !there(a) {
		return api.ErrNil
	}
	for _, b := range more {
		if !there(b) {
			return api.ErrNil
		}
	}
	for _, b := range more {
		if b.Len() != a.Len() {
			return api.ErrSize
		}
	}
	return api.OK
}

// there is whether a is a selection of one of the two forms, with something in it. What is of another kind counts as not there: asking it could end in anything.
func there(a Sel) bool {
	switch x := a.(type) {
	case Dense:
		return x.Set != nil
	case Sparse:
		return x.made
	}
	return false
}

// meet goes through the list, if one of the two is one: no other row can be chosen in both.
func meet(a, b Sel) Sel {
	switch x := a.(type) {
	case Sparse:
		return x.only(b.Has)
	default:
		return meetSet(a.Bits(), b)
	}
}

func meetSet(s *bits.Set, b Sel) Sel {
	switch x := b.(type) {
	case Sparse:
		return x.only(s.Get)
	default:
		both, _ := s.And(b.Bits())
		return own(both)
	}
}

func join(a, b Sel) Sel {
	either := a.Bits()
	switch x := b.(type) {
	case Sparse:
		putAll(either, x.rows)
	default:
		either, _ = either.Or(b.Bits())
	}
	return own(either)
}

func less(a, b Sel) Sel { return meet(a, Not(b)) }

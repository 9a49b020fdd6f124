package logic

import (
	"colonnade/api"
	"colonnade/bits"
)

// truths are a truth a row: Yes of the rows that yes holds, No of those that notNo does not hold, Maybe of those between. As each set is of the truths from one on in their order, the least of two truths is in what both have, the greatest in what either has.
type truths struct{ yes, notNo *bits.Set }

// allYes are those of n rows. No set is ever turned here, so that the two may be one.
func allYes(n int) truths {
	every := bits.New(n).Not()
	return truths{every, every}
}

// rowByRow puts two truths a row together by what puts their sets together. Layer 1 refuses none here, since all sets of a row group are of one length.
func rowByRow(put func(s, o *bits.Set) (*bits.Set, api.Errno)) func(t, u truths) truths {
	return func(t, u truths) truths {
		yes, _ := put(t.yes, u.yes)
		notNo, _ := put(t.notNo, u.notNo)
		return truths{yes, notNo}
	}
}

func (t truths) not() truths { return truths{t.notNo.Not(), t.yes.Not()} }

func (t truths) areNo() bool { return t.notNo.Count() == 0 }

func (t truths) areYes() bool { return t.yes.Count() == t.yes.Len() }

func (t truths) unknown() *bits.Set {
	s, _ := t.notNo.Less(t.yes)
	return s
}

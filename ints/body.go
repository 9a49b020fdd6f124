package ints

import (
	"slices"

	"colonnade/api"
	"colonnade/bits"
	"colonnade/chunk"
	"colonnade/dict"
	"colonnade/runs"
)

// ask is which of a body's numbers an atom says Yes of, each body being asked as it stands. The atom may be for its column, and is not PredNull.
func ask(b chunk.Body, p api.Pred) (*bits.Set, api.Errno) {
	switch x := b.(type) {
	case chunk.IntPlain:
		return askEach(x.Values, asker(p)), api.OK
	case chunk.IntRuns:
		return askRuns(x.Runs, x.Count(), asker(p)), api.OK
	case chunk.IntDict:
		return askDict(x, p)
	case chunk.IntFrame:
		return askFrame(x, p)
	}
	return nil, api.ErrOp
}

func askEach(l []int64, says func(v int64) bool) *bits.Set {
	s := bits.New(len(l))
	for i, v := range l {
		if says(v) {
			s.Put(i, true)
		}
	}
	return s
}

// askRuns asks once a run, of runs that mean n numbers.
func askRuns(l []runs.Run[int64], n int, says func(v int64) bool) *bits.Set {
	s, from := bits.New(n), 0
	for _, r := range l {
		if says(r.Value) {
			for i := range r.N {
				s.Put(from+i, true)
			}
		}
		from += r.N
	}
	return s
}

// asker is what an atom says of a single number.
func asker(p api.Pred) func(v int64) bool {
	switch p.Kind {
	case api.PredCompare:
		wanted, c := sidesBy(p.Op), p.Value.Int
		return func(v int64) bool { return wanted&sidesOf(v, v, c) != 0 }
	case api.PredBetween:
		lo, hi := p.List[0].Int, p.List[1].Int
		return func(v int64) bool { return lo <= v && v <= hi }
	}
	return among(p.List)
}

// among looks for a number in a sorted copy, because a list may be long and the values to be asked many.
func among(l []api.Value) func(v int64) bool {
	sorted := make([]int64, len(l))
	for i, w := range l {
		sorted[i] = w.Int
	}
	slices.Sort(sorted)
	sorted = slices.Compact(sorted)
	return func(v int64) bool {
		_, is := dict.Find(sorted, v)
		return is
	}
}

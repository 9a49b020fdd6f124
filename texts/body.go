package texts

import (
	"slices"

	"colonnade/api"
	"colonnade/atom"
	"colonnade/bits"
	"colonnade/chunk"
	"colonnade/dict"
	"colonnade/runs"
	"colonnade/value"
)

// ask is which of a body's texts an atom says Yes of, each body being asked as it stands. The atom may be for its column, and is not PredNull.
func ask(b chunk.Body, p api.Pred) (*bits.Set, api.Errno) {
	switch x := b.(type) {
	case chunk.TextPlain:
		return askEach(x.Values, asker(p)), api.OK
	case chunk.TextRuns:
		return askRuns(x.Runs, b.Count(), asker(p)), api.OK
	case chunk.TextDict:
		return askDict(x, p)
	}
	return nil, api.ErrOp
}

func askEach(l []string, says func(s string) bool) *bits.Set {
	yes := bits.New(len(l))
	for i, s := range l {
		if says(s) {
			yes.Put(i, true)
		}
	}
	return yes
}

// askRuns asks once a run, of runs that mean n texts.
func askRuns(l []runs.Run[string], n int, says func(s string) bool) *bits.Set {
	yes, from := bits.New(n), 0
	for _, r := range l {
		if says(r.Value) {
			for i := range r.N {
				yes.Put(from+i, true)
			}
		}
		from += r.N
	}
	return yes
}

// asker is whether an atom says Yes of a single text.
func asker(p api.Pred) func(s string) bool {
	if p.Kind == api.PredIn {
		return among(p.List)
	}
	return func(s string) bool { return atom.Test(p, value.Text(s)) == api.Yes }
}

// among looks for a text in a sorted copy, because a list may be long and the values to be asked many.
func among(l []api.Value) func(s string) bool {
	sorted := make([]string, len(l))
	for i, v := range l {
		sorted[i] = v.Text
	}
	slices.Sort(sorted)
	sorted = slices.Compact(sorted)
	return func(s string) bool {
		_, is := dict.Find(sorted, s)
		return is
	}
}

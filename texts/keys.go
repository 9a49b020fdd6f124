package texts

import (
	"colonnade/api"
	"colonnade/atom"
	"colonnade/bits"
	"colonnade/chunk"
	"colonnade/dict"
	"colonnade/lanes"
)

// askDict asks the keys alone, and holds the codes against the numbers of those that the atom says Yes of.
func askDict(x chunk.TextDict, p api.Pred) (*bits.Set, api.Errno) {
	if p.Kind == api.PredIn {
		return lanes.In(x.Codes, x.Width, x.N, codesOf(x.Keys, p.List)...)
	}
	if p.Kind == api.PredCompare && p.Op == api.Ne {
		// All keys but one do not stand side by side; the one does.
		equal, _ := atom.Not(p)
		yes, e := askDict(x, equal)
		return yes.Not(), e
	}
	from, behind := keysOf(x.Keys, p)
	if from >= behind {
		return bits.New(x.N), api.OK
	}
	return lanes.Between(x.Codes, x.Width, x.N, uint64(from), uint64(behind-1))
}

// codesOf is the codes of those of a list's texts that are keys.
func codesOf(keys []string, l []api.Value) []uint64 {
	var codes []uint64
	for _, v := range l {
		if at, is := dict.Find(keys, v.Text); is {
			codes = append(codes, uint64(at))
		}
	}
	return codes
}

// keysOf is the number of the first key that an atom says Yes of, and the one behind the last: they stand side by side. (It is asked of neither PredIn nor Ne.)
func keysOf(keys []string, p api.Pred) (from, behind int) {
	switch p.Kind {
	case api.PredBegins:
		return Range(keys, p.Value.Text)
	case api.PredBetween:
		return dict.Floor(keys, p.List[0].Text), notAbove(keys, p.List[1].Text)
	}
	return keysBy(keys, p.Op, p.Value.Text)
}

// keysBy is keysOf of a comparison.
func keysBy(keys []string, op int, c string) (from, behind int) {
	switch op {
	case api.Lt:
		return 0, dict.Floor(keys, c)
	case api.Le:
		return 0, notAbove(keys, c)
	case api.Gt:
		return notAbove(keys, c), len(keys)
	case api.Ge:
		return dict.Floor(keys, c), len(keys)
	}
	return dict.Floor(keys, c), notAbove(keys, c)
}

// notAbove is how many keys are not above a text.
func notAbove(keys []string, s string) int {
	if at, is := dict.Find(keys, s); is {
		return at + 1
	}
	return dict.Floor(keys, s)
}

package ints

import (
	"colonnade/api"
	"colonnade/bits"
	"colonnade/chunk"
	"colonnade/dict"
	"colonnade/frame"
	"colonnade/lanes"
)

// codes are numbers that stand as others without a sign, packed: one code is below another just if its number is.
type codes struct {
	lanes    []byte
	width, n int
}

// askDict holds the codes against those that an atom's numbers have, or would have, among the keys.
func askDict(x chunk.IntDict, p api.Pred) (*bits.Set, api.Errno) {
	c := codes{lanes: x.Codes, width: x.Width, n: x.N}
	switch p.Kind {
	case api.PredCompare:
		return c.compare(toKeys(p.Op, p.Value.Int, x.Keys))
	case api.PredBetween:
		return c.between(keysBetween(x.Keys, p.List[0].Int, p.List[1].Int))
	}
	return c.in(p.List, func(v int64) (uint64, bool) {
		at, is := dict.Find(x.Keys, v)
		return uint64(at), is
	})
}

// askFrame holds the lanes against what an atom's numbers are above the base.
func askFrame(x chunk.IntFrame, p api.Pred) (*bits.Set, api.Errno) {
	c := codes{lanes: x.Lanes, width: x.Width, n: x.N}
	switch p.Kind {
	case api.PredCompare:
		return c.compare(ToFrame(p.Op, p.Value.Int, x.Base, x.Width))
	case api.PredBetween:
		return c.between(codesBetween(x.Base, p.List[0].Int, p.List[1].Int))
	}
	return c.in(p.List, func(v int64) (uint64, bool) { return frame.Drop(x.Base, v) })
}

// toKeys is for a dictionary's codes what ToFrame is for a frame's.
func toKeys(op int, c int64, keys []int64) (to int, v uint64, all, none bool) {
	at := uint64(dict.Floor(keys, c))
	if _, is := dict.Find(keys, c); is {
		return op, at, false, false
	}
	// No code is c's: those of the numbers above it begin with at.
	switch op {
	case api.Lt, api.Le:
		return api.Lt, at, false, false
	case api.Gt, api.Ge:
		return api.Ge, at, false, false
	}
	return 0, 0, op == api.Ne, op == api.Eq
}

// keysBetween is the first and the last of the keys that are neither below lo nor above hi, if there is one.
func keysBetween(keys []int64, lo, hi int64) (from, to uint64, some bool) {
	first, behind := dict.Floor(keys, lo), dict.Floor(keys, hi)
	if _, is := dict.Find(keys, hi); is {
		behind++
	}
	if first >= behind {
		return 0, 0, false
	}
	return uint64(first), uint64(behind - 1), true
}

// codesBetween is the codes of lo, or the first one, if it is below the base, and of hi, if there is one.
func codesBetween(base, lo, hi int64) (from, to uint64, some bool) {
	from, _ = frame.Drop(base, lo)
	to, some = frame.Drop(base, hi)
	return from, to, some
}

// compare takes what ToFrame and toKeys answer.
func (c codes) compare(op int, v uint64, all, none bool) (*bits.Set, api.Errno) {
	if none {
		return bits.New(c.n), api.OK
	}
	if all {
		return bits.New(c.n).Not(), api.OK
	}
	return lanes.Test(c.lanes, c.width, c.n, op, v)
}

// between takes what keysBetween and codesBetween answer.
func (c codes) between(from, to uint64, some bool) (*bits.Set, api.Errno) {
	if !some {
		return bits.New(c.n), api.OK
	}
	return lanes.Between(c.lanes, c.width, c.n, from, to)
}

// in asks for those codes of a list's numbers that there are.
func (c codes) in(l []api.Value, code func(v int64) (uint64, bool)) (*bits.Set, api.Errno) {
	var wanted []uint64
	for _, w := range l {
		if v, is := code(w.Int); is {
			wanted = append(wanted, v)
		}
	}
	return lanes.In(c.lanes, c.width, c.n, wanted...)
}

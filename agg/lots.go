package agg

import (
	"cmp"
	"iter"

	"colonnade/api"
	"colonnade/bits"
	"colonnade/chunk"
	"colonnade/frame"
	"colonnade/pack"
	"colonnade/runs"
	"colonnade/value"
	"colonnade/wide"
)

// Whatever a body's values stand as, those that are chosen are told in lots: a value, and how often it is meant.

// each tells the values one by one.
func each[T any](l []T, chosen *bits.Set) iter.Seq2[T, int] {
	return func(yield func(T, int) bool) {
		for k := range chosen.All() {
			if !yield(l[k], 1) {
				return
			}
		}
	}
}

// byLane takes just the lanes that are chosen out of their frame.
func byLane(x chunk.IntFrame, chosen *bits.Set) iter.Seq2[int64, int] {
	return func(yield func(int64, int) bool) {
		for k := range chosen.All() {
			code, _ := pack.At(x.Lanes, x.Width, k)
			if !yield(frame.Lift(x.Base, code), 1) {
				return
			}
		}
	}
}

// byRun tells a run once, whatever its length.
func byRun[T comparable](l []runs.Run[T], chosen *bits.Set) iter.Seq2[T, int] {
	return func(yield func(T, int) bool) {
		end, told, below := 0, 0, risingRank(chosen)
		for _, r := range l {
			end += r.N
			n := below(end) - told
			if n > 0 && !yield(r.Value, n) {
				return
			}
			told += n
		}
	}
}

// byKey tells a key once, however often its code stands.
func byKey[T any](keys []T, codes []byte, width int, chosen *bits.Set) iter.Seq2[T, int] {
	return func(yield func(T, int) bool) {
		often := make([]int, len(keys))
		for k := range chosen.All() {
			code, _ := pack.At(codes, width, k)
			often[code]++
		}
		for code, n := range often {
			if n > 0 && !yield(keys[code], n) {
				return
			}
		}
	}
}

func ofInts(lots iter.Seq2[int64, int]) State {
	var e ends[int64]
	var sum wide.Wide
	for v, n := range lots {
		e.add(v, n)
		sum = sum.Plus(wide.Times(v, n))
	}
	s := e.state(value.Int)
	s.Sum = sum
	return s
}

func ofTexts(lots iter.Seq2[string, int]) State {
	var e ends[string]
	for v, n := range lots {
		e.add(v, n)
	}
	return e.state(value.Text)
}

// ends are the first and the last of some values, and how many these are: the first and the last count only if there is one.
type ends[T cmp.Ordered] struct {
	count           int
	least, greatest T
}

func (e *ends[T]) add(v T, n int) {
	if e.count == 0 {
		e.least, e.greatest = v, v
	}
	e.least, e.greatest = min(e.least, v), max(e.greatest, v)
	e.count += n
}

// state is that of the values, but for the Rows and the Sum.
func (e ends[T]) state(of func(T) api.Value) State {
	if e.count == 0 {
		return None()
	}
	return State{Count: e.count, Min: of(e.least), Max: of(e.greatest)}
}

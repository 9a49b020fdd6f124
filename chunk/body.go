package chunk

import (
	"slices"

	"colonnade/api"
	"colonnade/frame"
	"colonnade/pack"
	"colonnade/runs"
	"colonnade/value"
)

// Body is what a chunk's values that are not null stand as.
type Body interface {
	Count() int
}

// IntPlain is Ints, one by one.
type IntPlain struct {
	Values []int64
}

// Count: P12.6.
func (b IntPlain) Count() int { return len(b.Values) }

// IntDict is Ints by their numbers in a list of keys.
type IntDict struct {
	Keys     []int64
	Codes    []byte
	Width, N int
}

// Count: P12.6.
func (b IntDict) Count() int { return b.N }

// IntRuns is Ints in runs.
type IntRuns struct {
	Runs []runs.Run[int64]
}

// Count: P12.6.
func (b IntRuns) Count() int { return together(b.Runs) }

// IntFrame is Ints as lanes above a base (Packed: above 0).
type IntFrame struct {
	Base     int64
	Lanes    []byte
	Width, N int
}

// Count: P12.6.
func (b IntFrame) Count() int { return b.N }

// TextPlain is Texts, one by one.
type TextPlain struct {
	Values []string
}

// Count: P12.6.
func (b TextPlain) Count() int { return len(b.Values) }

// TextDict is Texts by their numbers in a list of keys.
type TextDict struct {
	Keys     []string
	Codes    []byte
	Width, N int
}

// Count: P12.6.
func (b TextDict) Count() int { return b.N }

// TextRuns is Texts in runs.
type TextRuns struct {
	Runs []runs.Run[string]
}

// Count: P12.6.
func (b TextRuns) Count() int { return together(b.Runs) }

// together is how many values the runs mean.
func together[T comparable](l []runs.Run[T]) int {
	n := 0
	for _, r := range l {
		n += r.N
	}
	return n
}

// copyOf is a body whose lists nobody else has; nil of nil.
func copyOf(b Body) Body {
	switch x := b.(type) {
	case IntPlain:
		return IntPlain{Values: slices.Clone(x.Values)}
	case IntDict:
		return IntDict{Keys: slices.Clone(x.Keys), Codes: slices.Clone(x.Codes), Width: x.Width, N: x.N}
	case IntRuns:
		return IntRuns{Runs: slices.Clone(x.Runs)}
	case IntFrame:
		return IntFrame{Base: x.Base, Lanes: slices.Clone(x.Lanes), Width: x.Width, N: x.N}
	case TextPlain:
		return TextPlain{Values: slices.Clone(x.Values)}
	case TextDict:
		return TextDict{Keys: slices.Clone(x.Keys), Codes: slices.Clone(x.Codes), Width: x.Width, N: x.N}
	case TextRuns:
		return TextRuns{Runs: slices.Clone(x.Runs)}
	}
	return nil
}

// finder tells the values of a body by their numbers, which it must be asked for rising: so runs are gone through once, however many values are asked for. Nothing else of the body is taken out.
func finder(b Body) func(k int) api.Value {
	switch x := b.(type) {
	case IntPlain:
		return as(value.Int, inList(x.Values))
	case IntDict:
		return as(value.Int, inDict(x.Keys, x.Codes, x.Width))
	case IntRuns:
		return as(value.Int, inRuns(x.Runs))
	case IntFrame:
		return as(value.Int, inFrame(x.Base, x.Lanes, x.Width))
	case TextPlain:
		return as(value.Text, inList(x.Values))
	case TextDict:
		return as(value.Text, inDict(x.Keys, x.Codes, x.Width))
	case TextRuns:
		return as(value.Text, inRuns(x.Runs))
	}
	return nil
}

// as makes values of what at finds.
func as[T any](of func(T) api.Value, at func(k int) T) func(k int) api.Value {
	return func(k int) api.Value { return of(at(k)) }
}

func inList[T any](l []T) func(k int) T {
	return func(k int) T { return l[k] }
}

func inDict[T any](keys []T, codes []byte, width int) func(k int) T {
	return func(k int) T {
		code, _ := pack.At(codes, width, k)
		return keys[code]
	}
}

func inRuns[T comparable](l []runs.Run[T]) func(k int) T {
	at, end := -1, 0
	return func(k int) T {
		for k >= end {
			at++
			end += l[at].N
		}
		return l[at].Value
	}
}

func inFrame(base int64, lanes []byte, width int) func(k int) int64 {
	return func(k int) int64 {
		code, _ := pack.At(lanes, width, k)
		return frame.Lift(base, code)
	}
}

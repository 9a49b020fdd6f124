package chunk

import (
	"cmp"
	"slices"

	"colonnade/api"
	"colonnade/cursor"
	"colonnade/dict"
	"colonnade/frame"
	"colonnade/pack"
	"colonnade/plain"
	"colonnade/runs"
	"colonnade/value"
)

// Encode: P12.1.
func Encode(col api.Column, l []api.Value, c api.Codec) ([]byte, api.Errno) {
	s, e := sortOut(col, l)
	if e != api.OK {
		return nil, e
	}
	if !isCodecOf(col, c) {
		return nil, api.ErrCodec
	}
	b, e := s.bytesBy(c)
	if e != api.OK {
		return nil, e
	}
	return slices.Concat(s.head(c), b), api.OK
}

// Fit: P12.2.
func Fit(col api.Column, l []api.Value) []api.Codec {
	var out []api.Codec
	for _, t := range trials(col, l) {
		out = append(out, t.codec)
	}
	return out
}

// Best: P12.2.
func Best(col api.Column, l []api.Value) api.Codec {
	all := trials(col, l)
	if len(all) == 0 {
		return api.Codec{}
	}
	// Of several that are as short this is the first one, which has the least Kind.
	return slices.MinFunc(all, func(a, b trial) int { return cmp.Compare(a.size, b.size) }).codec
}

// good says whether a column may have chunks.
func good(col api.Column) bool { return col.Type == api.Int || col.Type == api.Text }

// isCodecOf says whether c is a codec of a good column.
func isCodecOf(col api.Column, c api.Codec) bool {
	switch c.Kind {
	case api.Plain, api.Dict, api.Runs:
		return c.Width == 0
	case api.Frame, api.Packed:
		return col.Type == api.Int && c.Width >= 0 && c.Width <= 64
	}
	return false
}

// sorted is values of a column, the nulls and the dense ones apart.
type sorted struct {
	// nulls has a 1 for each value that is Null, a 0 for each other.
	nulls []uint8
	isInt bool
	// The dense values stand in the list that goes with the column's Type; the other one has none.
	ints  []int64
	texts []string
}

// sortOut is the values of a column, if they are such values, and not too many.
func sortOut(col api.Column, l []api.Value) (sorted, api.Errno) {
	if !good(col) {
		return sorted{}, api.ErrSchema
	}
	if len(l) > api.MaxRows {
		return sorted{}, api.ErrLarge
	}
	s := sorted{nulls: make([]uint8, len(l)), isInt: col.Type == api.Int}
	for i, v := range l {
		if !value.Fits(col, v) {
			return sorted{}, api.ErrValue
		}
		if v.Kind == api.Null {
			s.nulls[i] = 1
		}
	}
	if s.isInt {
		s.ints = dense(l, func(v api.Value) int64 { return v.Int })
	} else {
		s.texts = dense(l, func(v api.Value) string { return v.Text })
	}
	return s, api.OK
}

// dense is what the values that are not Null have, in their order.
func dense[T any](l []api.Value, of func(api.Value) T) []T {
	out := make([]T, 0, len(l))
	for _, v := range l {
		if v.Kind != api.Null {
			out = append(out, of(v))
		}
	}
	return out
}

// head is what stands ahead of the codec's bytes.
func (s sorted) head(c api.Codec) []byte {
	missing := len(s.nulls) - len(s.ints) - len(s.texts)
	head := cursor.PutUvarint([]byte{byte(c.Kind), byte(c.Width)}, uint64(missing))
	if missing == 0 {
		return head
	}
	lane, _ := pack.Pack(s.nulls, 1)
	return append(head, lane...)
}

// bytesBy is the codec's bytes of the dense values, by a codec of their column.
func (s sorted) bytesBy(c api.Codec) ([]byte, api.Errno) {
	if s.isInt {
		return intBytes(s.ints, c)
	}
	return textBytes(s.texts, c)
}

func intBytes(l []int64, c api.Codec) ([]byte, api.Errno) {
	switch c.Kind {
	case api.Plain:
		return plain.PutInts(l), api.OK
	case api.Dict:
		return dict.PutInts(l)
	case api.Runs:
		return runs.PutInts(l), api.OK
	case api.Frame:
		return frame.PutFrame(l, c.Width)
	}
	return frame.PutPacked(l, c.Width)
}

func textBytes(l []string, c api.Codec) ([]byte, api.Errno) {
	switch c.Kind {
	case api.Plain:
		return plain.PutTexts(l)
	case api.Dict:
		return dict.PutTexts(l)
	}
	return runs.PutTexts(l), api.OK
}

// trial is a codec by which values were encoded, and how many bytes the codec's were: all that their forms can differ in, for the heads are as long.
type trial struct {
	codec api.Codec
	size  int
}

// trials are those of the codecs that fit, in the order of their Kinds.
func trials(col api.Column, l []api.Value) []trial {
	s, e := sortOut(col, l)
	if e != api.OK {
		return nil
	}
	var out []trial
	for _, c := range s.candidates() {
		if b, e := s.bytesBy(c); e == api.OK {
			out = append(out, trial{codec: c, size: len(b)})
		}
	}
	return out
}

// candidates are the codecs that are worth a trial: of those with a width the least one, if there is any.
func (s sorted) candidates() []api.Codec {
	out := []api.Codec{{Kind: api.Plain}, {Kind: api.Dict}, {Kind: api.Runs}}
	if !s.isInt {
		return out
	}
	out = append(out, api.Codec{Kind: api.Frame, Width: frame.FrameWidth(s.ints)})
	if width, is := frame.PackedWidth(s.ints); is {
		out = append(out, api.Codec{Kind: api.Packed, Width: width})
	}
	return out
}

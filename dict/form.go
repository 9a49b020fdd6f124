package dict

import (
	"cmp"
	"slices"

	"colonnade/api"
	"colonnade/cursor"
	"colonnade/pack"
	"colonnade/plain"
)

// PutInts: P9.3.
func PutInts(l []int64) ([]byte, api.Errno) {
	return put(l, func(keys []int64) ([]byte, api.Errno) { return plain.PutInts(keys), api.OK })
}

// PutTexts: P9.3.
func PutTexts(l []string) ([]byte, api.Errno) { return put(l, plain.PutTexts) }

// Ints: P9.4.
func Ints(b []byte, n int) (keys []int64, width int, codes []byte, e api.Errno) {
	return read(b, n, plain.Ints)
}

// Texts: P9.4.
func Texts(b []byte, n int) (keys []string, width int, codes []byte, e api.Errno) {
	return read(b, n, plain.Texts)
}

// widthOf is the width of so many keys.
func widthOf(keys int) int {
	if keys < 2 {
		return 0
	}
	return pack.Width(uint64(keys - 1))
}

// put is the form of l, whose keys are put by putKeys.
func put[T cmp.Ordered](l []T, putKeys func([]T) ([]byte, api.Errno)) ([]byte, api.Errno) {
	if len(l) > api.MaxRows {
		return nil, api.ErrLarge
	}
	o := gather(l, api.MaxDict)
	if o.count() > api.MaxDict {
		return nil, api.ErrUnfit
	}
	keys := o.number()
	shown, e := putKeys(keys)
	if e != api.OK {
		return nil, e
	}
	lanes, e := pack.Pack(o.codesOf(l), widthOf(len(keys)))
	if e != api.OK {
		return nil, e
	}
	return slices.Concat(cursor.PutUvarint(nil, uint64(len(keys))), shown, lanes), api.OK
}

// read is the keys, the width and the codes of the form of n values, whose keys are read by readKeys.
func read[T cmp.Ordered](b []byte, n int, readKeys func([]byte, int) ([]T, api.Errno)) ([]T, int, []byte, api.Errno) {
	switch {
	case n < 0:
		return nil, 0, nil, api.ErrArg
	case n > api.MaxRows:
		return nil, 0, nil, api.ErrLarge
	}
	p, is := cut(b, n)
	if !is {
		return nil, 0, nil, api.ErrDict
	}
	keys, e := readKeys(p.keys, p.count)
	if e != api.OK || !rise(keys) || !p.codesMayBe(n) {
		return nil, 0, nil, api.ErrDict
	}
	return keys, p.width, p.codes, api.OK
}

// parts are a form's bytes: those of so many keys, and their codes in lanes of that width.
type parts struct {
	count, width int
	keys, codes  []byte
}

// cut takes the form of n values apart, if there are bytes for all their codes. How many keys and values there are says how long the codes are, so that what stands between the two is the keys.
func cut(b []byte, n int) (parts, bool) {
	r := cursor.Open(b)
	count := r.Uvarint()
	if count > api.MaxDict {
		return parts{}, false
	}
	p := parts{count: int(count), width: widthOf(int(count))}
	size, e := pack.Bytes(n, p.width)
	if e != api.OK {
		return parts{}, false
	}
	// If there are too few bytes, less than none are asked for here, and that is refused.
	p.keys = r.Bytes(r.Left() - size)
	p.codes = r.Bytes(size)
	return p, r.End() == api.OK
}

// codesMayBe says whether there are the codes of n values, each the number of a key, and none of the keys is left out.
func (p parts) codesMayBe(n int) bool {
	codes, e := pack.Unpack[uint16](p.codes, p.width, n)
	if e != api.OK {
		return false
	}
	met := make([]bool, p.count)
	for _, c := range codes {
		if int(c) >= p.count {
			return false
		}
		met[c] = true
	}
	return !slices.Contains(met, false)
}

// rise says whether each key is above the one ahead of it.
func rise[T cmp.Ordered](keys []T) bool {
	for i := 1; i < len(keys); i++ {
		if !cmp.Less(keys[i-1], keys[i]) {
			return false
		}
	}
	return true
}

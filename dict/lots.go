package dict

import (
	"cmp"
	"slices"
)

// lots holds the first value of each lot of values that are alike.
type lots[T cmp.Ordered] struct {
	// codes has the first values, and, once they are numbered, their codes.
	codes map[T]uint32
	// odd has the first value that is no number. It stands apart, because a map takes such values as unlike one another and finds none of them again.
	odd []T
}

// gather goes through l until it has the lots of all values, or more than most of them.
func gather[T cmp.Ordered](l []T, most int) lots[T] {
	o := lots[T]{codes: map[T]uint32{}}
	for _, v := range l {
		o.add(v)
		if o.count() > most {
			break
		}
	}
	return o
}

func (o *lots[T]) add(v T) {
	if v != v {
		if len(o.odd) == 0 {
			o.odd = []T{v}
		}
		return
	}
	// A value that is there is not stored again: of two zeros the map would keep the second one's sign.
	if _, is := o.codes[v]; !is {
		o.codes[v] = 0
	}
}

// count is how many keys there are.
func (o *lots[T]) count() int { return len(o.codes) + len(o.odd) }

// number gives the lots their codes, and answers the keys.
func (o *lots[T]) number() []T {
	keys := append(make([]T, 0, o.count()), o.odd...)
	for v := range o.codes {
		keys = append(keys, v)
	}
	slices.Sort(keys)
	for i, k := range keys {
		// What is no number is the first key, and its code is never looked up.
		if i >= len(o.odd) {
			o.codes[k] = uint32(i)
		}
	}
	return keys
}

// codesOf is the code of each value of l, all of which were gathered and numbered.
func (o *lots[T]) codesOf(l []T) []uint32 {
	codes := make([]uint32, len(l))
	for i, v := range l {
		// What is no number is not found, and 0 is its code.
		codes[i] = o.codes[v]
	}
	return codes
}

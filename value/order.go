package value

import (
	"cmp"

	"colonnade/api"
)

// Compare: P5.3.
func Compare(a, b api.Value) int {
	if !May(a) || !May(b) {
		return cmp.Compare(there(a), there(b))
	}
	if c := cmp.Compare(place(a.Kind), place(b.Kind)); c != 0 {
		return c
	}
	if a.Kind == api.Text {
		return cmp.Compare(a.Text, b.Text)
	}
	return compareNumbers(a, b)
}

// there is 1 for a value that may be and 0 for one that may not, which stands ahead of every one that may.
func there(v api.Value) int {
	if May(v) {
		return 1
	}
	return 0
}

// place is where the values of a kind stand among those of the others. Ints and Reals share one.
func place(kind int) int {
	switch kind {
	case api.Null:
		return 0
	case api.Int, api.Real:
		return 1
	}
	return 2
}

// compareNumbers takes two Nulls for two Ints: the fields of both are zero.
func compareNumbers(a, b api.Value) int {
	switch {
	case a.Kind == b.Kind && a.Kind == api.Real:
		return cmp.Compare(a.Real, b.Real)
	case a.Kind == b.Kind:
		return cmp.Compare(a.Int, b.Int)
	case a.Kind == api.Int:
		return intToReal(a.Int, b.Real)
	}
	return -intToReal(b.Int, a.Real)
}

// intToReal is -1, if i is at most as great as f, else 1. It is the Real that is made a whole number, because an Int made a Real may be rounded: what stands ahead of the point of a Real within the range of Ints is an Int exactly, and a Real exactly when it is made one again.
func intToReal(i int64, f float64) int {
	const beyond = 1 << 63
	if f >= beyond {
		return -1
	}
	if f < -beyond {
		return 1
	}
	whole := int64(f)
	if i != whole {
		return cmp.Compare(i, whole)
	}
	if float64(whole) > f {
		return 1
	}
	return -1
}

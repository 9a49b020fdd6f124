package bloom_test

import (
	"bytes"
	"slices"
	"testing"

	"colonnade/api"
	"colonnade/bloom"
)

func mustHas(t *testing.T, b []byte, v api.Value, want bool) {
	t.Helper()
	if got := bloom.Has(b, v); got != want {
		t.Errorf("Has(%d bytes %s, %s) = %v", len(b), brief(b), brief(v), got)
	}
}

func mustAll(t *testing.T, b []byte, l []api.Value, want bool) {
	t.Helper()
	if got := bloom.All(b, l); got != want {
		t.Errorf("All(%d bytes %s, %s) = %v", len(b), brief(b), brief(l), got)
	}
}

// TestP13_2NoFilter: bytes that are no filter have everything, also what is no value for a filter.
func TestP13_2NoFilter(t *testing.T) {
	all := append(goodValues(), wrongValues()...)
	for _, n := range wrongLengths() {
		for _, b := range [][]byte{make([]byte, n), bytes.Repeat([]byte{255}, n), someBytes(byChance(3), n)} {
			for _, v := range all {
				mustHas(t, b, v, true)
			}
			mustAll(t, b, all, true)
			mustAll(t, b, nil, true)
		}
	}
	mustHas(t, nil, api.Value{}, true)
	mustAll(t, nil, all, true)
}

func TestP13_2AllBitsAlike(t *testing.T) {
	for _, size := range sizes() {
		none, full := make([]byte, size), bytes.Repeat([]byte{255}, size)
		for _, v := range goodValues() {
			mustHas(t, none, v, false)
			mustHas(t, full, v, true)
		}
		mustAll(t, full, goodValues(), true)
		mustAll(t, none, goodValues(), false)
		mustAll(t, none, nil, true)
	}
}

// TestP13_2WrongValue: no filter has what is no value for one.
func TestP13_2WrongValue(t *testing.T) {
	for _, size := range sizes() {
		built, _ := bloom.Build(size, goodValues())
		for _, b := range [][]byte{make([]byte, size), bytes.Repeat([]byte{255}, size), built} {
			for _, v := range wrongValues() {
				mustHas(t, b, v, false)
				mustAll(t, b, list(v), false)
			}
		}
	}
}

// TestP13_2EachPlace: the four bits alone are enough, and none of them may be missing, whatever the others are.
func TestP13_2EachPlace(t *testing.T) {
	for _, size := range []int{8, 16, 64, 1024, 65536} {
		full := bytes.Repeat([]byte{255}, size)
		for _, v := range append(goodValues(), someValues(byChance(4), 40)...) {
			alone := make([]byte, size)
			for _, p := range plainPlaces(size, v) {
				mustHas(t, alone, v, false)
				alone = turned(alone, p)
				mustHas(t, turned(full, p), v, false)
			}
			mustHas(t, alone, v, true)
			for _, p := range plainPlaces(size, v) {
				mustHas(t, turned(alone, p), v, false)
			}
		}
	}
}

// TestP13_2OtherBits: bits that are at none of its places say nothing of a value.
func TestP13_2OtherBits(t *testing.T) {
	for _, v := range list(num(5), num(-1), word(""), word("a")) {
		places := plainPlaces(8, v)
		built := plainBuild(8, list(v))
		for j := range 64 {
			if !slices.Contains(places, j) {
				mustHas(t, turned(built, j), v, true)
				mustHas(t, turned(bytes.Repeat([]byte{255}, 8), j), v, true)
			}
		}
	}
}

func TestP13_2AnyBits(t *testing.T) {
	r := byChance(5)
	had := 0
	for range 4000 {
		b := someBytes(r, sizes()[r.IntN(6)])
		if r.IntN(2) == 0 {
			for i, c := range someBytes(r, len(b)) {
				b[i] |= c
			}
		}
		l := someValues(r, 1)
		want := plainHas(b, l[0])
		mustHas(t, b, l[0], want)
		mustAll(t, b, l, want)
		if want {
			had++
		}
	}
	if had < 200 || had > 3800 {
		t.Errorf("of 4000 values %d were there: too few of one kind", had)
	}
}

// TestP13_2All: one value that is not there is enough, wherever it stands.
func TestP13_2All(t *testing.T) {
	r := byChance(6)
	in := someValues(r, 20)
	b, _ := bloom.Build(1024, in)
	out := num(1000)
	for bloom.Has(b, out) {
		out.Int++
	}
	mustAll(t, b, in, true)
	mustAll(t, b, list(out), false)
	for i := range len(in) + 1 {
		mustAll(t, b, slices.Insert(slices.Clone(in), i, out), false)
		mustAll(t, b, slices.Insert(slices.Clone(in), i, api.Value{}), false)
		mustAll(t, b, in[:i], true)
	}
	for range 500 {
		l := slices.Concat(in[:r.IntN(len(in))], someValues(r, r.IntN(3)))
		want := !slices.ContainsFunc(l, func(v api.Value) bool { return !plainHas(b, v) })
		mustAll(t, b, l, want)
	}
}

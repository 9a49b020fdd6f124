package bloom_test

import (
	"slices"
	"testing"

	"colonnade/api"
	"colonnade/bloom"
)

// built is the filter of some values, which must be there.
func built(t *testing.T, size int, l []api.Value) []byte {
	t.Helper()
	b, e := bloom.Build(size, l)
	if e != api.OK || len(b) != size {
		t.Fatalf("Build(%d, %s): %d bytes, %d", size, brief(l), len(b), e)
	}
	return b
}

// joined is the Join of filters, which must be there.
func joined(t *testing.T, l ...[]byte) []byte {
	t.Helper()
	b, e := bloom.Join(l...)
	if e != api.OK {
		t.Fatalf("Join of %d: %d", len(l), e)
	}
	return b
}

// TestP13_4NothingIsMissed: whatever the size, of few values and of far more than the filter has bits.
func TestP13_4NothingIsMissed(t *testing.T) {
	r := byChance(9)
	lists := [][]api.Value{nil, goodValues(), someValues(r, 1), someValues(r, 100), someValues(r, 5000)}
	for _, size := range sizes() {
		for _, l := range lists {
			b := built(t, size, l)
			mustAll(t, b, l, true)
			for _, v := range l {
				if !bloom.Has(b, v) {
					t.Fatalf("%d bytes, %d values: %s is missed", size, len(l), brief(v))
				}
			}
		}
	}
}

// TestP13_4Joined: what one filter has, its Join with others has, wherever it stands among them.
func TestP13_4Joined(t *testing.T) {
	r := byChance(10)
	for _, size := range sizes() {
		l, others := someValues(r, 40), [][]byte{built(t, size, someValues(r, 30)), make([]byte, size), someBytes(r, size)}
		b := built(t, size, l)
		for i := range len(others) + 1 {
			mustAll(t, joined(t, slices.Insert(slices.Clone(others), i, b)...), l, true)
		}
		one := someBytes(r, size)
		all := joined(t, append(others, one)...)
		for _, v := range someValues(r, 300) {
			if bloom.Has(one, v) && !bloom.Has(all, v) {
				t.Fatalf("%d bytes: %s is missed behind Join", size, brief(v))
			}
		}
	}
}

// TestP13_4FewOthers: a filter with room enough has few values that were not built in, else it would say nothing.
func TestP13_4FewOthers(t *testing.T) {
	var in []api.Value
	for i := range int64(100) {
		in = append(in, num(i))
	}
	b := built(t, 1024, in)
	had := 0
	for i := range int64(10000) {
		if bloom.Has(b, num(1000+i)) {
			had++
		}
	}
	if had > 500 {
		t.Errorf("of 10000 others it has %d", had)
	}
}

// TestP13_5ListsTogether: Join of the filters of some lists is the filter of all their values.
func TestP13_5ListsTogether(t *testing.T) {
	r := byChance(11)
	for _, size := range sizes() {
		for n := 1; n < 6; n++ {
			var filters [][]byte
			var all []api.Value
			for range n {
				l := someValues(r, r.IntN(30))
				filters = append(filters, built(t, size, l))
				all = append(all, l...)
			}
			want := built(t, size, all)
			mustJoin(t, want, filters...)
			slices.Reverse(filters)
			mustJoin(t, want, filters...)
			mustJoin(t, want, joined(t, filters[:1]...), joined(t, filters...))
		}
	}
}

// TestP13_5OneByOne: a filter is the Join of the filters of its values, each by itself.
func TestP13_5OneByOne(t *testing.T) {
	for _, size := range []int{8, 256, 65536} {
		var filters [][]byte
		for _, v := range goodValues() {
			filters = append(filters, built(t, size, list(v)))
		}
		mustJoin(t, built(t, size, goodValues()), filters...)
	}
}

func TestP13_5OrderSaysNothing(t *testing.T) {
	r := byChance(12)
	for _, size := range sizes() {
		l := append(someValues(r, 25), goodValues()...)
		want := built(t, size, l)
		back := slices.Clone(l)
		slices.Reverse(back)
		mustBuild(t, size, back, want)
		for range 5 {
			r.Shuffle(len(back), func(i, j int) { back[i], back[j] = back[j], back[i] })
			mustBuild(t, size, back, want)
		}
	}
}

func TestP13_5HowOftenSaysNothing(t *testing.T) {
	r := byChance(13)
	for _, size := range sizes() {
		for _, v := range append(goodValues(), someValues(r, 5)...) {
			want := built(t, size, list(v))
			mustBuild(t, size, list(v, v), want)
			mustBuild(t, size, list(v, v, v), want)
		}
		l := someValues(r, 30)
		want := built(t, size, l)
		mustBuild(t, size, slices.Concat(l, l), want)
		mustBuild(t, size, slices.Concat(l[3:9], l, l[:20]), want)
		mustJoin(t, want, want, want, want)
	}
}

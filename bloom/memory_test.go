package bloom_test

import (
	"bytes"
	"slices"
	"testing"

	"colonnade/api"
	"colonnade/bloom"
)

// spoil writes over a list and its spare room, and behind it.
func spoil[T any](l []T, with T) {
	_ = append(l, with)
	l = l[:cap(l)]
	for i := range l {
		l[i] = with
	}
	_ = append(l, with)
}

// spoilt is a value that no test has.
func spoilt() api.Value { return api.Value{Kind: 77, Int: 77, Real: 77, Text: "spoilt"} }

// TestP13_6Build: values stay as they are, with their spare room, and so does each filter when another one or the values are written over.
func TestP13_6Build(t *testing.T) {
	r := byChance(14)
	for _, size := range sizes() {
		for _, n := range []int{0, 1, 2, 30} {
			room := append(someValues(r, n), spoilt(), spoilt())
			was, given := slices.Clone(room), room[:n]
			want := plainBuild(size, given)
			kept, other := built(t, size, given), built(t, size, given)
			spoil(other, 0xEE)
			if !bytes.Equal(kept, want) || !slices.Equal(room, was) {
				t.Fatalf("%d bytes: behind an answer that was written over: %s, %s", size, brief(kept), brief(room))
			}
			mustBuild(t, size, given, want)
			spoil(room, spoilt())
			if !bytes.Equal(kept, want) {
				t.Fatalf("%d bytes: behind values that were written over: %s", size, brief(kept))
			}
			mustBuild(t, size, was[:n], want)
		}
	}
}

// TestP13_6Has: asking changes neither a filter nor values, nor what stands behind them.
func TestP13_6Has(t *testing.T) {
	r := byChance(15)
	for _, size := range append(sizes(), 0, 5, 12, 131072) {
		room, values := someBytes(r, size+9), append(someValues(r, 20), spoilt(), spoilt())
		wasRoom, wasValues := slices.Clone(room), slices.Clone(values)
		for _, v := range values {
			bloom.Has(room[:size], v)
		}
		for n := range values {
			bloom.All(room[:size], values[:n])
		}
		if !bytes.Equal(room, wasRoom) || !slices.Equal(values, wasValues) {
			t.Fatalf("%d bytes: asking has changed what was handed in", size)
		}
	}
}

// TestP13_6SpareRoomIsNotRead: a filter is as long as it is, whatever room it has.
func TestP13_6SpareRoomIsNotRead(t *testing.T) {
	room := bytes.Repeat([]byte{255}, 64)
	clear(room[:16])
	mustHas(t, room[:16], num(5), false)
	mustHas(t, room[:7], num(5), true)
	mustHas(t, room[:0], num(5), true)
	mustJoin(t, make([]byte, 8), room[:8], room[8:16])
	mustNotJoin(t, room[:8], room[:7])
	values := list(num(5), spoilt(), word("a"))
	mustBuild(t, 8, values[:1], plainBuild(8, values[:1]))
	mustAll(t, bytes.Repeat([]byte{255}, 8), values[:1], true)
}

// TestP13_6Join: filters stay as they are, the list of them too, and an answer is apart from each of them, also where there is but one.
func TestP13_6Join(t *testing.T) {
	r := byChance(16)
	for _, size := range sizes() {
		for n := 1; n < 5; n++ {
			room := someBytes(r, (n+1)*size)
			was := slices.Clone(room)
			var l [][]byte
			for i := range n {
				l = append(l, room[i*size:(i+1)*size])
			}
			want := plainJoin(size, l)
			kept, other := joined(t, l...), joined(t, l...)
			spoil(other, 0xEE)
			if !bytes.Equal(kept, want) || !bytes.Equal(room, was) {
				t.Fatalf("%d of %d bytes: behind an answer that was written over: %s", n, size, brief(kept))
			}
			mustJoin(t, want, l...)
			if again := joined(t, kept, kept); &again[0] == &kept[0] || !bytes.Equal(again, want) {
				t.Fatalf("%d of %d bytes: an answer, joined with itself", n, size)
			}
			for i := range l {
				if len(l[i]) != size || &l[i][0] != &room[i*size] {
					t.Fatalf("%d of %d bytes: the list that was handed in has another number %d", n, size, i)
				}
			}
			spoil(room, 0xEE)
			if !bytes.Equal(kept, want) {
				t.Fatalf("%d of %d bytes: behind filters that were written over: %s", n, size, brief(kept))
			}
		}
	}
}

// TestP13_6RefusedStays: what is refused stays as it was too.
func TestP13_6RefusedStays(t *testing.T) {
	r := byChance(17)
	one, two := someBytes(r, 16), someBytes(r, 33)
	wasOne, wasTwo := slices.Clone(one), slices.Clone(two)
	for n := range len(two) + 1 {
		bloom.Join(one, two[:n])
		bloom.Join(two[:n], one)
		bloom.Join(one, one, two[:n])
	}
	values := append(someValues(r, 5), spoilt(), num(3))
	was := slices.Clone(values)
	for _, size := range []int{7, 8, 12, 64, 131072} {
		for n := range values {
			bloom.Build(size, values[:n+1])
		}
	}
	if !bytes.Equal(one, wasOne) || !bytes.Equal(two, wasTwo) || !slices.Equal(values, was) {
		t.Error("what was refused has changed")
	}
}

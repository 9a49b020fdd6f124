package plain_test

import (
	"slices"
	"testing"

	"colonnade/api"
	"colonnade/plain"
)

// spoil writes over a list and its spare room, and behind it.
func spoil[T any](l []T, with T) {
	l = l[:cap(l)]
	for i := range l {
		l[i] = with
	}
	_ = append(l, with)
}

// TestPagePutMemory: what is put stands in new memory, and what was handed in is as it was, spare room included.
func TestPagePutMemory(t *testing.T) {
	numbers, texts := edgeInts(), someTexts(byChance(14), 40)
	wereNumbers, wereTexts := slices.Clone(numbers), slices.Clone(texts)
	for n := range len(texts) {
		one, two := plain.PutInts(numbers[:n]), plain.PutInts(numbers[:n])
		three, _ := plain.PutTexts(texts[:n])
		four, _ := plain.PutTexts(texts[:n])
		spoil(one, 0xEE)
		spoil(three, 0xEE)
		if !slices.Equal(two, plainPutInts(numbers[:n])) || !slices.Equal(four, plainPutTexts(texts[:n])) {
			t.Fatalf("of %d: an answer shares memory with another", n)
		}
		if !slices.Equal(numbers, wereNumbers) || !slices.Equal(texts, wereTexts) {
			t.Fatalf("of %d: what was handed in was changed", n)
		}
	}
}

// TestPageReadMemory: answers that are written over or grown change neither one another nor the bytes that were handed in, and those that are written over change no answer.
func TestPageReadMemory(t *testing.T) {
	l := []string{"ab", "", "cde", "", "f"}
	room := append(plainPutTexts(l), "spare room"...)
	b := room[:len(room)-10]
	was := slices.Clone(room)
	one, _ := plain.Texts(b, 5)
	two, e := plain.Texts(b, 5)
	at, _ := plain.TextAt(b, 5, 2)
	spoil(one, "x")
	if e != api.OK || !slices.Equal(two, l) || at != "cde" || !slices.Equal(room, was) {
		t.Errorf("behind texts that were written over: %q, %q, %q", two, at, room)
	}
	spoil(room, 0xEE)
	if !slices.Equal(two, l) || at != "cde" {
		t.Errorf("behind bytes that were written over: %q, %q", two, at)
	}

	numbers := []int64{1, -2, 3}
	room = append(plainPutInts(numbers), 1, 2, 3, 4, 5, 6, 7, 8)
	b = room[:24]
	was = slices.Clone(room)
	first, _ := plain.Ints(b, 3)
	second, e := plain.Ints(b, 3)
	spoil(first, 9)
	if e != api.OK || !slices.Equal(second, numbers) || !slices.Equal(room, was) {
		t.Errorf("behind numbers that were written over: %v, % X", second, room)
	}
	spoil(room, 0xEE)
	if !slices.Equal(second, numbers) {
		t.Errorf("behind bytes that were written over: %v", second)
	}
}

// TestPageEmptyAnswers: an answer of nothing has no room that is another's.
func TestPageEmptyAnswers(t *testing.T) {
	room := []byte{0, 0, 0, 0, 7, 7, 7, 7}
	numbers, _ := plain.Ints(room[:0], 0)
	texts, _ := plain.Texts(room[:4], 0)
	spoil(numbers, -1)
	spoil(texts, "x")
	spoil(plain.PutInts(nil), 0xEE)
	if !slices.Equal(room, []byte{0, 0, 0, 0, 7, 7, 7, 7}) {
		t.Errorf("bytes that were handed in: % X", room)
	}
	mustInts(t, room[:0], 0, api.OK)
	mustTexts(t, room[:4], 0, api.OK)
	mustPutTexts(t, []byte{0, 0, 0, 0})
}

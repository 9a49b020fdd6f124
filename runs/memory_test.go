package runs_test

import (
	"slices"
	"testing"

	"colonnade/api"
	"colonnade/runs"
)

// spoil writes over a list and its spare room, and behind it.
func spoil[T any](l []T, with T) {
	l = l[:cap(l)]
	for i := range l {
		l[i] = with
	}
	_ = append(l, with)
}

// apart asks twice of the first n of room: an answer that is written over leaves the other one and all of room as they were, and room that is written over leaves the answers.
func apart[A, B comparable](t *testing.T, room []A, n int, withA A, withB B, ask func([]A) []B) {
	t.Helper()
	was := slices.Clone(room)
	one, two := ask(room[:n]), ask(room[:n])
	want := slices.Clone(one)
	if !slices.Equal(two, want) || !slices.Equal(room, was) {
		t.Fatalf("asked twice of %v: %v and %v; behind them %v", was[:n], one, two, room)
	}
	spoil(one, withB)
	if !slices.Equal(two, want) || !slices.Equal(room, was) {
		t.Fatalf("behind an answer that was written over: %v, %v; want %v, %v", two, room, want, was)
	}
	if again := ask(room[:n]); !slices.Equal(again, want) {
		t.Fatalf("asked again: %v, want %v", again, want)
	}
	spoil(room, withA)
	if !slices.Equal(two, want) {
		t.Fatalf("behind what was handed in and written over: %v, want %v", two, want)
	}
}

// all is what Unfold, Ints or Texts answer of what may be told.
func all[A, B any](t *testing.T, ask func(A) ([]B, api.Errno)) func(A) []B {
	return func(a A) []B {
		l, e := ask(a)
		if e != api.OK {
			t.Helper()
			t.Fatalf("refused: %d", e)
		}
		return l
	}
}

func TestP10_8Fold(t *testing.T) {
	r := byChance(13)
	for n := range 40 {
		apart(t, someInts(r, n+9, 2), n, -99, intRun{-77, -7}, runs.Fold[int64])
		apart(t, someTexts(r, n+9, 2), n, "spoilt", textRun{"gone", -7}, runs.Fold[string])
		apart(t, slices.Repeat([]int64{5}, n+9), n, -99, intRun{-77, -7}, runs.Fold[int64])
	}
}

func TestP10_8Unfold(t *testing.T) {
	r := byChance(14)
	for n := range 40 {
		ints, texts := runs.Fold(someInts(r, 9*n+50, 2)), runs.Fold(someTexts(r, 9*n+50, 2))
		apart(t, ints, min(n, len(ints)), intRun{-77, -7}, -99, all(t, runs.Unfold[int64]))
		apart(t, texts, min(n, len(texts)), textRun{"gone", -7}, "spoilt", all(t, runs.Unfold[string]))
	}
	apart(t, []intRun{{1, 1}, {2, 1}, {3, 1}, {4, 1}}, 3, intRun{-77, -7}, -99, all(t, runs.Unfold[int64]))
}

// TestP10_8At: the runs stay as they are, also those that are left out.
func TestP10_8At(t *testing.T) {
	room := []intRun{{7, 2}, {9, -3}, {8, 1}, {6, 5}}
	was := slices.Clone(room)
	for i := -2; i < 9; i++ {
		runs.At(room[:3], i)
	}
	if !slices.Equal(room, was) {
		t.Errorf("what was handed in: %v", room)
	}
}

func TestP10_8Put(t *testing.T) {
	r := byChance(15)
	for n := range 40 {
		apart(t, someInts(r, n+9, 2), n, -99, 0xEE, runs.PutInts)
		apart(t, someTexts(r, n+9, 2), n, "spoilt", 0xEE, runs.PutTexts)
	}
}

func TestP10_8Read(t *testing.T) {
	r := byChance(16)
	for n := range 40 {
		b := bytesOfInts(plainFold(someInts(r, n, 2))...)
		apart(t, append(b, "spare room"...), len(b), 0xEE, intRun{-77, -7}, all(t, func(b []byte) ([]intRun, api.Errno) { return runs.Ints(b, n) }))
		b = bytesOfTexts(plainFold(someTexts(r, n, 2))...)
		apart(t, append(b, "spare room"...), len(b), 0xEE, textRun{"gone", -7}, all(t, func(b []byte) ([]textRun, api.Errno) { return runs.Texts(b, n) }))
	}
}

// TestP10_8Refused: what is refused stays as it was too.
func TestP10_8Refused(t *testing.T) {
	room := append([]byte{2, 2, 10, 2, 10}, "spare room"...)
	was := slices.Clone(room)
	for n := -1; n < 6; n++ {
		for i := range room {
			runs.Ints(room[:i], n)
			runs.Texts(room[:i], n)
		}
	}
	l := []intRun{{1, 5}, {2, 0}, {3, 1 << 60}}
	runs.Unfold(l)
	runs.Unfold(l[2:])
	if !slices.Equal(room, was) || !slices.Equal(l, []intRun{{1, 5}, {2, 0}, {3, 1 << 60}}) {
		t.Errorf("what was handed in: % X, %v", room, l)
	}
}

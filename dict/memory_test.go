package dict_test

import (
	"cmp"
	"slices"
	"testing"

	"colonnade/api"
	"colonnade/dict"
)

// spoil writes over a list and its spare room, and behind it.
func spoil[T any](l []T, with T) {
	l = l[:cap(l)]
	for i := range l {
		l[i] = with
	}
	_ = append(l, with)
}

// builtApart writes over what Build answers, the keys or the codes, and over what it was given, and looks at the rest.
func builtApart[T cmp.Ordered](t *testing.T, room []T, n int, with T) {
	t.Helper()
	was := slices.Clone(room)
	wantKeys, wantCodes := plainBuild(room[:n])
	keys, codes := dict.Build(room[:n])
	more, others := dict.Build(room[:n])
	spoil(more, with)
	if !slices.Equal(others, wantCodes) {
		t.Fatalf("codes behind keys that were written over: %v", others)
	}
	spoil(others, 77)
	if !slices.Equal(keys, wantKeys) || !slices.Equal(codes, wantCodes) {
		t.Fatalf("behind an answer that was written over another is %v, %v", keys, codes)
	}
	spoil(codes, 77)
	if !slices.Equal(keys, wantKeys) {
		t.Fatalf("keys behind codes that were written over: %v", keys)
	}
	if !slices.Equal(room, was) {
		t.Fatalf("what was handed in: %v", room)
	}
	spoil(room, with)
	if !slices.Equal(keys, wantKeys) {
		t.Fatalf("keys behind values that were written over: %v", keys)
	}
}

func TestP9_9Build(t *testing.T) {
	r := byChance(14)
	for n := range 30 {
		builtApart(t, someInts(r, n+9, n), n, -99)
		builtApart(t, someTexts(r, n+9, n), n, "spoilt")
	}
	for n := range 9 { // keys that rise already
		builtApart(t, []int64{1, 2, 3, 4, 5, 6, 7, 8, 9}, n, -99)
	}
}

// TestP9_9Asked: Floor and Find leave the keys as they are.
func TestP9_9Asked(t *testing.T) {
	room := []int64{9, 3, 7, 1, 2, 5}
	was := slices.Clone(room)
	for v := range int64(11) {
		dict.Floor(room[:4], v)
		dict.Find(room[:4], v)
	}
	if !slices.Equal(room, was) {
		t.Errorf("what was handed in: %v", room)
	}
}

func TestP9_9Put(t *testing.T) {
	r := byChance(15)
	for n := range 30 {
		ints, texts := someInts(r, n+9, n), someTexts(r, n+9, n)
		wereInts, wereTexts := slices.Clone(ints), slices.Clone(texts)
		one, _ := dict.PutInts(ints[:n])
		two, _ := dict.PutInts(ints[:n])
		three, _ := dict.PutTexts(texts[:n])
		four, _ := dict.PutTexts(texts[:n])
		spoil(one, 0xEE)
		spoil(three, 0xEE)
		if !slices.Equal(two, formOfInts(ints[:n])) || !slices.Equal(four, formOfTexts(texts[:n])) {
			t.Fatalf("of %d: an answer shares memory with another", n)
		}
		if !slices.Equal(ints, wereInts) || !slices.Equal(texts, wereTexts) {
			t.Fatalf("of %d: what was handed in was changed", n)
		}
	}
}

// TestP9_9Read: keys and codes are apart from one another, from those of another call, and from the bytes.
func TestP9_9Read(t *testing.T) {
	values := []int64{5, -3, 5, 8, 8, 1, 5, 0, 2}
	b := append(formOfInts(values), "spare room"...)
	readApart(t, b, len(b)-10, len(values), -99, dict.Ints)
	words := []string{"no", "", "nor", "a", "no", "z"}
	b = append(formOfTexts(words), "spare room"...)
	readApart(t, b, len(b)-10, len(words), "spoilt", dict.Texts)
	b = append(formOfTexts([]string{"x"}), "spare room"...)
	readApart(t, b, len(b)-10, 1, "spoilt", dict.Texts)
	b = append(formOfInts(nil), "spare room"...)
	readApart(t, b, len(b)-10, 0, -99, dict.Ints)
}

func readApart[T cmp.Ordered](t *testing.T, room []byte, size, n int, with T, read func([]byte, int) ([]T, int, []byte, api.Errno)) {
	t.Helper()
	was := slices.Clone(room)
	keys, _, codes, e := read(room[:size], n)
	if e != api.OK {
		t.Fatalf("%d", e)
	}
	wantKeys, wantCodes := slices.Clone(keys), slices.Clone(codes)
	more, _, others, _ := read(room[:size], n)
	spoil(more, with)
	if !slices.Equal(others, wantCodes) || !slices.Equal(room, was) {
		t.Fatalf("behind keys that were written over: % X, % X", others, room)
	}
	more, _, others, _ = read(room[:size], n)
	spoil(others, 0xEE)
	if !slices.Equal(more, wantKeys) || !slices.Equal(room, was) {
		t.Fatalf("behind codes that were written over: %v, % X", more, room)
	}
	spoil(room, 0xDD)
	if !slices.Equal(keys, wantKeys) || !slices.Equal(codes, wantCodes) {
		t.Fatalf("behind bytes that were written over: %v, % X", keys, codes)
	}
}

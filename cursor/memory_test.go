package cursor_test

import (
	"slices"
	"testing"

	"colonnade/api"
	"colonnade/cursor"
)

// puts are all calls that put, each of them more than b has room for or less.
func puts() map[string]func(b []byte) []byte {
	return map[string]func(b []byte) []byte{
		"Put uint8":  func(b []byte) []byte { return cursor.Put(b, uint8(1)) },
		"Put uint16": func(b []byte) []byte { return cursor.Put(b, uint16(1)) },
		"Put uint32": func(b []byte) []byte { return cursor.Put(b, uint32(1)) },
		"Put uint64": func(b []byte) []byte { return cursor.Put(b, uint64(1)) },
		"PutUvarint": func(b []byte) []byte { return cursor.PutUvarint(b, 1<<40) },
		"PutVarint":  func(b []byte) []byte { return cursor.PutVarint(b, -1) },
		"PutBlock":   func(b []byte) []byte { return cursor.PutBlock(b, []byte{1, 2}) },
		"no bytes":   func(b []byte) []byte { return cursor.PutBlock(b, nil) },
		"PutTexts":   func(b []byte) []byte { return cursor.PutTexts(b, "a", "bc") },
		"no texts":   func(b []byte) []byte { return cursor.PutTexts(b) },
	}
}

// spoil writes over a list and its spare room.
func spoil(b []byte) {
	b = b[:cap(b)]
	for i := range b {
		b[i] = 0xEE
	}
}

// TestPagePutMemory: what is put stands in new memory, and what was handed in is as it was, spare room included.
func TestPagePutMemory(t *testing.T) {
	for name, f := range puts() {
		whole := []byte("abcdefghijklmnopqrstuvwxyz")
		was := slices.Clone(whole)
		for n := range len(whole) + 1 {
			one := f(whole[:n])
			two := f(whole[:n])
			if !slices.Equal(whole, was) {
				t.Fatalf("%s changed what was handed in: %q", name, whole)
			}
			kept := slices.Clone(two)
			spoil(one)
			if !slices.Equal(whole, was) || !slices.Equal(two, kept) {
				t.Fatalf("%s: an answer shares memory: %q, % X", name, whole, two)
			}
		}
	}
}

// TestPagePutBlockOfTheSame: what is put may be a piece of what it is put behind.
func TestPagePutBlockOfTheSame(t *testing.T) {
	b := []byte{1, 2, 3, 4, 5, 6}
	if got := cursor.PutBlock(b[:2], b[1:5]); !slices.Equal(got, []byte{1, 2, 4, 2, 3, 4, 5}) || !slices.Equal(b, []byte{1, 2, 3, 4, 5, 6}) {
		t.Errorf("PutBlock = % X, handed in % X", got, b)
	}
	l := []string{"a", "b", "c"}
	cursor.PutTexts(nil, l[:2]...)
	if !slices.Equal(l, []string{"a", "b", "c"}) {
		t.Errorf("PutTexts changed what was handed in: %q", l)
	}
}

// TestPageReadMemory: answers that are written over, with their spare room, change neither the reader nor other answers nor what it was opened with.
func TestPageReadMemory(t *testing.T) {
	b := []byte{1, 2, 3, 2, 4, 5, 2, 6, 7, 2, 1, 97, 1, 98, 8, 9}
	was := slices.Clone(b)
	r := cursor.Open(b)
	first := r.Bytes(3)
	block := r.Block(2)
	spoil(first)
	spoil(r.Bytes(0))
	if !slices.Equal(block, []byte{4, 5}) {
		t.Errorf("a block behind bytes that were written over: % X", block)
	}
	spoil(block)
	if got := r.Block(2); !slices.Equal(got, []byte{6, 7}) {
		t.Errorf("the next block = % X", got)
	}
	l := r.Texts(2, 1)
	kept := slices.Clone(l)
	if r.Left() != 2 || cursor.Take[uint16](r) != 0x0908 || !slices.Equal(l, kept) || !slices.Equal(l, []string{"a", "b"}) {
		t.Errorf("behind the texts %q: Fault %d", l, r.Fault())
	}
	l = append(l[:1], "x")
	if !slices.Equal(b, was) || r.End() != api.OK {
		t.Errorf("what the reader was opened with: % X, End %d, %q", b, r.End(), l)
	}
}

// TestPageEmptyAnswers: an answer of no bytes has no room that is the reader's.
func TestPageEmptyAnswers(t *testing.T) {
	for name, f := range map[string]func(r *cursor.Reader) []byte{
		"Bytes": func(r *cursor.Reader) []byte { return r.Bytes(0) },
		"Block": func(r *cursor.Reader) []byte { return r.Block(5) },
	} {
		b := []byte{0, 7, 7, 7}
		r := cursor.Open(b)
		p := append(f(r), 1, 2, 3)
		left := r.Left()
		if got := r.Bytes(left); !slices.Equal(got, b[4-left:]) || len(p) != 3 {
			t.Errorf("behind an empty answer of %s that was written to: % X", name, got)
		}
	}
}

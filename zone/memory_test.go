package zone_test

import (
	"bytes"
	"slices"
	"testing"

	"colonnade/api"
	"colonnade/cursor"
	"colonnade/zone"
)

// spoil writes over a list and its spare room, and behind it.
func spoil[T any](l []T, with T) {
	_ = append(l, with)
	l = l[:cap(l)]
	for i := range l {
		l[i] = with
	}
	_ = append(l, with)
}

// spoilt is a value that no test has.
func spoilt() api.Value { return api.Value{Kind: 77, Int: 77, Real: 77, Text: "spoilt"} }

// TestPageOf: values stay as they are, with their spare room, and so does each record when another one or the values are written over.
func TestPageOf(t *testing.T) {
	for i, col := range goodColumns() {
		for _, l := range manyLists(col, 1500+uint64(i)) {
			for _, size := range []int{0, 8, 64, 7} {
				room := append(slices.Clone(l), spoilt(), spoilt())
				was, given := slices.Clone(room), room[:len(l)]
				want, _ := plainOf(col, l, size)
				kept, _ := zone.Of(col, given, size)
				other, _ := zone.Of(col, given, size)
				spoil(other.Bloom, 0xEE)
				if !same(kept, want) || !slices.Equal(room, was) {
					t.Fatalf("behind an answer that was written over: %s, %s", brief(kept), brief(room))
				}
				ofAsPlain(t, col, given, size)
				spoil(room, spoilt())
				if !same(kept, want) {
					t.Fatalf("behind values that were written over: %s", brief(kept))
				}
			}
		}
	}
}

// TestPageAsked: asking changes neither values nor a record, nor what stands behind them, and does not read it.
func TestPageAsked(t *testing.T) {
	for i, col := range goodColumns() {
		for _, l := range manyLists(col, 1600+uint64(i)) {
			for _, z := range nearRecords(col, l) {
				values, filter := append(slices.Clone(l), spoilt(), spoilt()), append(slices.Clone(z.Bloom), "spare room"...)
				wasValues, wasFilter := slices.Clone(values), slices.Clone(filter)
				given := z
				given.Bloom = filter[:len(z.Bloom)]
				mustMay(t, col, len(l), given, plainMay(col, len(l), z))
				mustSound(t, col, values[:len(l)], given, plainSound(col, l, z))
				zone.Put(col, given)
				if !slices.Equal(values, wasValues) || !bytes.Equal(filter, wasFilter) || !same(given, z) {
					t.Fatalf("asking has changed what was handed in: %s, %s", brief(values), brief(given))
				}
			}
		}
	}
}

// TestPagePut: bytes that are put are apart from the record, its filter and the bytes of another call.
func TestPagePut(t *testing.T) {
	for _, col := range goodColumns() {
		for _, z := range goodRecords(col) {
			filter := append(slices.Clone(z.Bloom), "spare room"...)
			was := slices.Clone(filter)
			given := z
			given.Bloom = filter[:len(z.Bloom)]
			want := plainBytes(z)
			kept, _ := zone.Put(col, given)
			other, _ := zone.Put(col, given)
			spoil(other, 0xEE)
			if !bytes.Equal(kept, want) || !bytes.Equal(filter, was) {
				t.Fatalf("behind an answer that was written over: %s, %s", brief(kept), brief(filter))
			}
			mustPut(t, col, given, want)
			spoil(filter, 0xEE)
			if !bytes.Equal(kept, want) {
				t.Fatalf("behind a filter that was written over: %s", brief(kept))
			}
		}
	}
}

// TestPageTake: a record that was taken is apart from the reader, the bytes that it was opened with, and the next record.
func TestPageTake(t *testing.T) {
	for _, col := range goodColumns() {
		for _, z := range goodRecords(col) {
			one := plainBytes(z)
			b := slices.Concat(one, one, one, []byte{77, 78})
			was := slices.Clone(b)
			r := cursor.Open(b)
			first, _ := zone.Take(col, r)
			second, _ := zone.Take(col, r)
			spoil(second.Bloom, 0xEE)
			if !same(first, z) {
				t.Fatalf("behind the next record that was written over: %s, not %s", brief(first), brief(z))
			}
			spoil(first.Bloom, 0xEE)
			if third, e := zone.Take(col, r); e != api.OK || !same(third, z) || !bytes.Equal(b, was) {
				t.Fatalf("behind records that were written over: %s, %d, not %s", brief(third), e, brief(z))
			}
			if cursor.Take[uint16](r) != 77+78*256 || r.End() != api.OK {
				t.Fatalf("what stands behind the records of %s", brief(z))
			}
		}
	}
}

// TestPageTakenStays: a record that was taken does not change when the bytes are written over that the reader was opened with.
func TestPageTakenStays(t *testing.T) {
	for _, col := range goodColumns() {
		for _, z := range goodRecords(col) {
			b := plainBytes(z)
			got, e := zone.Take(col, cursor.Open(b))
			spoil(b, 0xEE)
			if e != api.OK || !same(got, z) {
				t.Fatalf("%s, %d; want %s", brief(got), e, brief(z))
			}
		}
	}
}

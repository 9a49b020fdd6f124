package schema_test

import (
	"bytes"
	"slices"
	"sync"
	"testing"

	"colonnade/api"
	"colonnade/schema"
)

// spoil writes over a list and its spare room, and behind it.
func spoil[T any](l []T, with T) {
	_ = append(l, with)
	l = l[:cap(l)]
	for i := range l {
		l[i] = with
	}
	_ = append(l, with)
}

// spoilt is a column that no test has.
func spoilt() api.Column { return api.Column{Name: "spoilt!", Type: 77, Null: true} }

// TestP15_7Asked: asking changes neither columns nor what stands behind them, and does not read it.
func TestP15_7Asked(t *testing.T) {
	for _, l := range slices.Concat(goodLists(), badLists()) {
		room := append(slices.Clone(l), spoilt(), whole("a"))
		was, given := slices.Clone(room), room[:len(l)]
		checkAsPlain(t, given)
		mustFind(t, given, "spoilt!", 0, false)
		mustSame(t, given, l, true)
		mustSame(t, given, room, false)
		schema.Put(given)
		if !slices.Equal(room, was) {
			t.Fatalf("asking has changed what was handed in: %s", brief(room))
		}
	}
}

// TestP15_7Put: a form is apart from the columns and from the form of another call.
func TestP15_7Put(t *testing.T) {
	for _, l := range goodLists() {
		given, want := slices.Clone(l), plainForm(l)
		kept, other := putOf(t, given), putOf(t, given)
		spoil(other, 0xEE)
		if !bytes.Equal(kept, want) || !slices.Equal(given, l) {
			t.Fatalf("behind an answer that was written over: %s, %s", brief(kept), brief(given))
		}
		mustPut(t, given, want)
		spoil(given, spoilt())
		if !bytes.Equal(kept, want) {
			t.Fatalf("behind columns that were written over: %s", brief(kept))
		}
	}
}

// TestP15_7Take: columns that were taken are apart from the bytes and from those of another call; the bytes stay, their spare room too.
func TestP15_7Take(t *testing.T) {
	for _, l := range goodLists() {
		form := plainForm(l)
		room := append(slices.Clone(form), "spare room"...)
		was, given := slices.Clone(room), room[:len(form)]
		kept, e := schema.Take(given)
		other, _ := schema.Take(given)
		spoil(other, spoilt())
		if e != api.OK || !slices.Equal(kept, l) || !bytes.Equal(room, was) {
			t.Fatalf("behind an answer that was written over: %s, %s", brief(kept), brief(room))
		}
		mustTake(t, given, l)
		spoil(room, 0xEE)
		if !slices.Equal(kept, l) {
			t.Fatalf("behind bytes that were written over: %s", brief(kept))
		}
		mustTake(t, form, l)
	}
}

// TestP15_7BesideOneAnother: nothing is kept from call to call, so many may ask at once of the same columns and bytes.
func TestP15_7BesideOneAnother(t *testing.T) {
	l := some(256, 64)
	form := plainForm(l)
	var wait sync.WaitGroup
	for range 8 {
		wait.Go(func() {
			for range 20 {
				b, e := schema.Put(l)
				got, f := schema.Take(form)
				if e != api.OK || f != api.OK || !bytes.Equal(b, form) || !schema.Same(got, l) || schema.Check(l) != api.OK {
					t.Errorf("Put and Take beside one another: %d, %d", e, f)
				}
			}
		})
	}
	wait.Wait()
}

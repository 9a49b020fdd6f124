package layout_test

import (
	"bytes"
	"slices"
	"sync"
	"testing"

	"colonnade/api"
	"colonnade/layout"
)

// spoil writes over a list and its spare room, and behind it.
func spoil[T any](l []T, with T) {
	_ = append(l, with)
	l = l[:cap(l)]
	for i := range l {
		l[i] = with
	}
	_ = append(l, with)
}

// What no test has.
func spoiltColumn() api.Column { return api.Column{Name: "spoilt!", Type: 77, Null: true} }
func spoiltValue() api.Value   { return api.Value{Kind: 77, Int: 77, Real: 77, Text: "spoilt"} }
func spoiltCodec() api.Codec   { return codec(77, 77) }

// spoilTable writes over every list of a table.
func spoilTable(t api.Table) {
	spoil(t.Columns, spoiltColumn())
	for _, l := range t.Rows {
		spoil(l, spoiltValue())
	}
	spoil(t.Rows, row(spoiltValue()))
}

// spoilLayout writes over every list of a layout.
func spoilLayout(l api.Layout) {
	spoil(l.Groups, 77)
	for _, c := range l.Codecs {
		spoil(c, spoiltCodec())
	}
	for _, b := range l.Blooms {
		spoil(b, 77)
	}
	spoil(l.Codecs, []api.Codec{spoiltCodec()})
	spoil(l.Blooms, list(77))
}

// grown is a list with two more elements in its room, which it does not show, and all of the room.
func grown[T any](l []T, with T) (shown, room []T) {
	room = append(slices.Clone(l), with, with)
	return room[:len(l)], room
}

// roomy is a pair all of whose lists have spare room that is filled, and a function that says whether all of that room is as it was.
func roomy(p pair) (pair, func() bool) {
	var asks []func() bool
	q := pair{}
	q.t.Columns = withRoom(p.t.Columns, spoiltColumn(), &asks)
	var rows [][]api.Value
	for _, l := range p.t.Rows {
		rows = append(rows, withRoom(l, spoiltValue(), &asks))
	}
	q.t.Rows = withLists(rows, row(spoiltValue()), &asks)
	q.l.Groups = withRoom(p.l.Groups, 77, &asks)
	var codecs [][]api.Codec
	for _, l := range p.l.Codecs {
		codecs = append(codecs, withRoom(l, spoiltCodec(), &asks))
	}
	q.l.Codecs = withLists(codecs, []api.Codec{spoiltCodec()}, &asks)
	var blooms [][]int
	for _, l := range p.l.Blooms {
		blooms = append(blooms, withRoom(l, 77, &asks))
	}
	q.l.Blooms = withLists(blooms, list(77), &asks)
	return q, func() bool { return !slices.ContainsFunc(asks, func(ask func() bool) bool { return !ask() }) }
}

// withRoom is a list with spare room, of which asks has a question from then on.
func withRoom[T comparable](l []T, with T, asks *[]func() bool) []T {
	shown, room := grown(l, with)
	was := slices.Clone(room)
	*asks = append(*asks, func() bool { return slices.Equal(room, was) })
	return shown
}

// withLists is the same of a list of lists: each must stay the very same list.
func withLists[T comparable](l [][]T, with []T, asks *[]func() bool) [][]T {
	shown, room := grown(l, with)
	was := slices.Clone(room)
	*asks = append(*asks, func() bool {
		return slices.EqualFunc(room, was, func(a, b []T) bool {
			return len(a) == len(b) && cap(a) == cap(b) && (cap(a) == 0 || &a[:cap(a)][0] == &b[:cap(b)][0])
		})
	})
	return shown
}

// wrongPairs are tables that may not be and layouts that are of none.
func wrongPairs() []pair {
	tab := someTable(byChance(600), fourColumns(), 4)
	var out []pair
	for _, x := range tableFaults(tab) {
		out = append(out, pair{x, plainLayout(tab, 4)})
	}
	for _, cut := range [][]int{nil, {3}, {5}, {2, 1}, {5, -1}} {
		out = append(out, pair{tab, plainLayout(tab, cut...)})
	}
	l := plainLayout(tab, 4)
	l.Codecs[0][0] = codec(api.Packed, 0)
	return append(out, pair{tab, l})
}

// TestP16_6HandedIn: no call changes what is handed in, nor what stands behind it, and none reads that.
func TestP16_6HandedIn(t *testing.T) {
	for _, p := range append(manyPairs(601), wrongPairs()...) {
		q, stays := roomy(p)
		checkAsPlain(t, q.t, q.l)
		want, wantE := plainWrite(p.t, p.l)
		if b, e := layout.Write(q.t, q.l); e != wantE || !bytes.Equal(b, want) {
			t.Fatalf("Write(%s, %s): %d, not %d", brief(p.t), brief(p.l), e, wantE)
		}
		for _, rows := range []int{-1, 1, 2, 1000} {
			evenAsPlain(t, q.t, rows)
		}
		if !stays() {
			t.Fatalf("a call has changed what was handed in: %s, %s", brief(p.t), brief(p.l))
		}
	}
}

// TestP16_6Write: an image is apart from the table, the layout, and the image of another call.
func TestP16_6Write(t *testing.T) {
	for _, p := range manyPairs(602) {
		q, stays := roomy(p)
		kept, e := layout.Write(q.t, q.l)
		other, _ := layout.Write(q.t, q.l)
		want := slices.Clone(kept)
		spoil(other, 0xEE)
		if e != api.OK || !bytes.Equal(kept, want) || !stays() {
			t.Fatalf("behind an answer that was written over: %s", brief(kept))
		}
		writeAsPlain(t, q.t, q.l)
		spoilTable(q.t)
		spoilLayout(q.l)
		if !bytes.Equal(kept, want) {
			t.Fatalf("behind arguments that were written over: %s", brief(kept))
		}
	}
}

// TestP16_6Even: a layout is apart from the table and from the layout of another call.
func TestP16_6Even(t *testing.T) {
	for _, p := range manyPairs(603) {
		for _, rows := range []int{1, 3, 1000} {
			q, stays := roomy(p)
			kept := mustEven(t, q.t, rows, api.OK)
			other := mustEven(t, q.t, rows, api.OK)
			want := copyOfLayout(kept)
			spoilLayout(other)
			if !sameLayout(kept, want) || !stays() {
				t.Fatalf("behind an answer that was written over: %s", brief(kept))
			}
			evenAsPlain(t, q.t, rows)
			spoilTable(q.t)
			if !sameLayout(kept, want) {
				t.Fatalf("behind a table that was written over: %s", brief(kept))
			}
		}
	}
}

// TestP16_6EvenLists: no two lists of one layout share any room: each is written over and grown alone, and the others stay.
func TestP16_6EvenLists(t *testing.T) {
	tab := someTable(byChance(604), fourColumns(), 7)
	for _, rows := range []int{1, 2, 7} {
		n := len(mustEven(t, tab, rows, api.OK).Groups)
		for i := range 1 + 2*n {
			l := mustEven(t, tab, rows, api.OK)
			want := copyOfLayout(l)
			switch {
			case i == 2*n:
				spoil(l.Groups, 77)
				spoil(want.Groups, 77)
			case i >= n:
				spoil(l.Blooms[i-n], 77)
				spoil(want.Blooms[i-n], 77)
			default:
				spoil(l.Codecs[i], spoiltCodec())
				spoil(want.Codecs[i], spoiltCodec())
			}
			if !sameLayout(l, want) {
				t.Fatalf("the list number %d was written over: %s, not %s", i, brief(l), brief(want))
			}
		}
	}
}

// TestP16_6BesideOneAnother: nothing is kept from call to call, so many may ask at once of the same table.
func TestP16_6BesideOneAnother(t *testing.T) {
	tab := someTable(byChance(605), fourColumns(), 50)
	l, _ := plainEven(tab, 7)
	b, _ := plainWrite(tab, l)
	var wait sync.WaitGroup
	for range 8 {
		wait.Go(func() {
			for range 10 {
				got, e := layout.Even(tab, 7)
				image, f := layout.Write(tab, l)
				if e != api.OK || f != api.OK || !sameLayout(got, l) || !bytes.Equal(image, b) {
					t.Errorf("Even and Write beside one another: %d, %d", e, f)
				}
			}
		})
	}
	wait.Wait()
}

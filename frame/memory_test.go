package frame_test

import (
	"slices"
	"testing"

	"colonnade/api"
	"colonnade/frame"
)

// spoil writes over a list and its spare room, and behind it.
func spoil[T any](l []T, with T) {
	l = l[:cap(l)]
	for i := range l {
		l[i] = with
	}
	_ = append(l, with)
}

// apart asks twice of the first n of room: an answer that is written over or grown leaves the other one and all of room as they were, and room that is written over leaves the answers.
func apart[A, B comparable](t *testing.T, room []A, n int, withA A, withB B, ask func([]A) ([]B, api.Errno)) {
	t.Helper()
	was := slices.Clone(room)
	one, e := ask(room[:n])
	two, f := ask(room[:n])
	want := slices.Clone(one)
	if e != api.OK || f != api.OK || !slices.Equal(two, want) || !slices.Equal(room, was) {
		t.Fatalf("asked twice of %v: %v, %d and %v, %d; behind them %v", was[:n], one, e, two, f, room)
	}
	_ = append(one, withB)
	spoil(one, withB)
	if !slices.Equal(two, want) || !slices.Equal(room, was) {
		t.Fatalf("behind an answer that was written over: %v, %v; want %v, %v", two, room, want, was)
	}
	if again, _ := ask(room[:n]); !slices.Equal(again, want) {
		t.Fatalf("asked again: %v, want %v", again, want)
	}
	spoil(room, withA)
	if !slices.Equal(two, want) {
		t.Fatalf("behind what was handed in and written over: %v, want %v", two, want)
	}
}

func TestPagePutMemory(t *testing.T) {
	r := byChance(14)
	for n := range 40 {
		for _, more := range []int{0, 1} {
			l := notBelow0(r, n+9)
			width := min(64, plainFrameWidth(l[:n])+more)
			apart(t, slices.Clone(l), n, -99, 0xEE, func(l []int64) ([]byte, api.Errno) { return frame.PutFrame(l, width) })
			w, _ := plainPackedWidth(l[:n])
			width = min(64, w+more)
			apart(t, l, n, -99, 0xEE, func(l []int64) ([]byte, api.Errno) { return frame.PutPacked(l, width) })
		}
	}
}

func TestPageOpenMemory(t *testing.T) {
	r := byChance(15)
	for n := range 40 {
		l := notBelow0(r, n)
		width := min(64, plainFrameWidth(l)+r.IntN(2))
		b, _ := plainPutFrame(l, width)
		base := plainLeast(l)
		apart(t, append(b, "spare room"...), len(b), 0xEE, 0x77, func(b []byte) ([]byte, api.Errno) {
			got, lanes, e := frame.OpenFrame(b, n, width)
			if got != base {
				t.Errorf("the base is %d, not %d", got, base)
			}
			return lanes, e
		})
		b, _ = plainPutFrame(l, width)
		apart(t, append(b[8:], "spare room"...), len(b)-8, 0xEE, -77, func(b []byte) ([]int64, api.Errno) { return frame.Values(base, b, n, width) })
		width, _ = plainPackedWidth(l)
		b, _ = plainPutPacked(l, width)
		apart(t, append(b, "spare room"...), len(b), 0xEE, 0x77, func(b []byte) ([]byte, api.Errno) { return frame.OpenPacked(b, n, width) })
	}
}

// TestPageLanesHaveNoRoom: lanes that are answered are cut with their room.
func TestPageLanesHaveNoRoom(t *testing.T) {
	for n := range 100 {
		l := make([]int64, n)
		b, _ := frame.PutFrame(l, 8)
		_, lanes, _ := frame.OpenFrame(b, n, 8)
		packed, _ := frame.OpenPacked(b[8:], n, 8)
		if len(lanes) != n || cap(lanes) != n || len(packed) != n || cap(packed) != n {
			t.Errorf("%d lanes: %d of %d, %d of %d", n, len(lanes), cap(lanes), len(packed), cap(packed))
		}
	}
}

// TestPageSpareRoomIsNotRead: what stands behind the bytes and numbers that are handed in is not asked.
func TestPageSpareRoomIsNotRead(t *testing.T) {
	room := append(append(eight(100), 28), slices.Repeat([]byte{255}, 30)...)
	mustOpenFrame(t, room[:9], 3, 2, 100, []byte{28})
	mustNotOpenFrame(t, room[:9], 5, 2, api.ErrCut)
	mustNotOpenFrame(t, room[:7], 0, 0, api.ErrCut)
	mustNotOpenPacked(t, room[8:9], 5, 2, api.ErrCut)
	mustNotValues(t, 100, room[8:9], 5, 2, api.ErrCut)
	numbers := []int64{100, 103, 101, -5, 1 << 40}
	mustFrameWidth(t, numbers[:3], 2)
	mustPackedWidth(t, numbers[:3], 7, true)
	mustPutFrame(t, numbers[:3], 2, room[:9])
}

// TestPageRefusedStays: what is refused stays as it was too.
func TestPageRefusedStays(t *testing.T) {
	room := append(append(eight(greatest), 28), "spare room"...)
	wasRoom := slices.Clone(room)
	numbers := []int64{5, -1, 1 << 40}
	wasNumbers := slices.Clone(numbers)
	for n := -1; n < 6; n++ {
		for width := -1; width < 66; width++ {
			for i := range room {
				frame.OpenFrame(room[:i], n, width)
				frame.OpenPacked(room[:i], n, width)
				frame.Values(greatest, room[:i], n, width)
			}
			frame.PutFrame(numbers, width)
			frame.PutPacked(numbers, width)
		}
	}
	frame.FrameWidth(numbers)
	frame.PackedWidth(numbers)
	if !slices.Equal(room, wasRoom) || !slices.Equal(numbers, wasNumbers) {
		t.Errorf("what was handed in: %d, %d", room, numbers)
	}
}

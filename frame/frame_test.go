package frame_test

import (
	"testing"

	"colonnade/frame"
)

func mustLift(t *testing.T, base int64, code uint64, want int64) {
	t.Helper()
	if got := frame.Lift(base, code); got != want {
		t.Errorf("Lift(%d, %d) = %d, want %d", base, code, got, want)
	}
}

func mustDrop(t *testing.T, base, v int64, want uint64, is bool) {
	t.Helper()
	if got, has := frame.Drop(base, v); got != want || has != is {
		t.Errorf("Drop(%d, %d) = %d, %t; want %d, %t", base, v, got, has, want, is)
	}
}

func mustFrameWidth(t *testing.T, l []int64, want int) {
	t.Helper()
	if got := frame.FrameWidth(l); got != want {
		t.Errorf("FrameWidth(%s) = %d, want %d", brief(l), got, want)
	}
}

func mustPackedWidth(t *testing.T, l []int64, want int, is bool) {
	t.Helper()
	if got, has := frame.PackedWidth(l); got != want || has != is {
		t.Errorf("PackedWidth(%s) = %d, %t; want %d, %t", brief(l), got, has, want, is)
	}
}

// liftAsPlain holds Lift against the plain sum.
func liftAsPlain(t *testing.T, base int64, code uint64) {
	t.Helper()
	want := sum(base, code)
	if tooGreat(base, code) {
		want.Sub(want, two(64))
	}
	if !want.IsInt64() {
		t.Fatalf("%d + %d is beyond int64, 2^64 less", base, code)
	}
	mustLift(t, base, code, want.Int64())
}

// dropAsPlain holds Drop against the plain difference.
func dropAsPlain(t *testing.T, base, v int64) {
	t.Helper()
	if d := plainCode(base, v); d.Sign() < 0 {
		mustDrop(t, base, v, 0, false)
	} else {
		mustDrop(t, base, v, d.Uint64(), true)
	}
}

func TestP11_1Lift(t *testing.T) {
	mustLift(t, 0, 0, 0)
	mustLift(t, -5, 5, 0)
	mustLift(t, least, 1<<64-1, greatest)
	mustLift(t, least, 1<<63-1, -1)
	mustLift(t, least, 1<<63, 0)
	mustLift(t, 0, 1<<63-1, greatest)
	mustLift(t, 0, 1<<63, least)
	mustLift(t, 0, 1<<64-1, -1)
	mustLift(t, -1, 1<<63, greatest)
	mustLift(t, -1, 1<<63+1, least)
	mustLift(t, greatest, 1<<64-1, greatest-1)
	for _, base := range edgeInts() {
		for _, code := range edgeCodes() {
			liftAsPlain(t, base, code)
		}
	}
	r := byChance(1)
	for range 20000 {
		liftAsPlain(t, int64(r.Uint64())>>r.IntN(64), r.Uint64()>>r.IntN(64))
	}
}

func TestP11_1Drop(t *testing.T) {
	mustDrop(t, 0, 0, 0, true)
	mustDrop(t, 0, -1, 0, false)
	mustDrop(t, -5, -6, 0, false)
	mustDrop(t, -5, -5, 0, true)
	mustDrop(t, -5, -4, 1, true)
	mustDrop(t, least, least, 0, true)
	mustDrop(t, least, -1, 1<<63-1, true)
	mustDrop(t, least, 0, 1<<63, true)
	mustDrop(t, -1, greatest, 1<<63, true)
	mustDrop(t, greatest, least, 0, false)
	mustDrop(t, greatest, greatest, 0, true)
	for _, base := range edgeInts() {
		for _, v := range edgeInts() {
			dropAsPlain(t, base, v)
		}
	}
	r := byChance(2)
	for range 20000 {
		dropAsPlain(t, int64(r.Uint64())>>r.IntN(64), int64(r.Uint64())>>r.IntN(64))
	}
}

func TestP11_2FrameWidth(t *testing.T) {
	mustFrameWidth(t, []int64{}, 0)
	mustFrameWidth(t, []int64{9, 9, 9}, 0)
	mustFrameWidth(t, []int64{least}, 0)
	mustFrameWidth(t, []int64{greatest}, 0)
	mustFrameWidth(t, []int64{least, greatest}, 64)
	mustFrameWidth(t, []int64{greatest, least}, 64)
	mustFrameWidth(t, []int64{-1, greatest}, 64)
	mustFrameWidth(t, []int64{0, greatest}, 63)
	mustFrameWidth(t, []int64{least, -1}, 63)
	mustFrameWidth(t, []int64{least, 0}, 64)
	mustFrameWidth(t, []int64{5, 1, 4}, 3)
	for _, l := range edgeLists() {
		mustFrameWidth(t, l, plainFrameWidth(l))
	}
	r := byChance(3)
	for n := range 300 {
		l := someInts(r, n)
		mustFrameWidth(t, l, plainFrameWidth(l))
	}
}

// TestP11_2FrameWidths: the greatest code that a width holds, and one more, wherever in the list it stands.
func TestP11_2FrameWidths(t *testing.T) {
	for w := range 64 {
		for _, base := range []int64{least, least + 1, -1 << 40, -3, -1, 0, 1, 1 << 40} {
			most := uint64(1)<<w - 1
			for i, code := range []uint64{most, most + 1} {
				if tooGreat(base, code) {
					continue
				}
				v := sum(base, code).Int64()
				for _, l := range [][]int64{{base, v}, {v, base}, {v, base, base, v}, {base, base, v, base}} {
					mustFrameWidth(t, l, w+i)
				}
			}
		}
	}
}

func TestP11_2PackedWidth(t *testing.T) {
	mustPackedWidth(t, []int64{}, 0, true)
	mustPackedWidth(t, []int64{0}, 0, true)
	mustPackedWidth(t, []int64{0, 0, 0}, 0, true)
	mustPackedWidth(t, []int64{1, 0}, 1, true)
	mustPackedWidth(t, []int64{9, 9}, 4, true)
	mustPackedWidth(t, []int64{greatest}, 63, true)
	mustPackedWidth(t, []int64{least}, 0, false)
	mustPackedWidth(t, []int64{least, greatest}, 0, false)
	mustPackedWidth(t, []int64{5, -1, 5}, 0, false)
	mustPackedWidth(t, []int64{-1, 5}, 0, false)
	mustPackedWidth(t, []int64{5, -1}, 0, false)
	for w := range 63 {
		v := int64(1)<<w - 1
		mustPackedWidth(t, []int64{v, 0}, w, true)
		mustPackedWidth(t, []int64{0, v + 1, v}, w+1, true)
	}
	for _, l := range edgeLists() {
		w, is := plainPackedWidth(l)
		mustPackedWidth(t, l, w, is)
	}
	r := byChance(4)
	for n := range 300 {
		for _, l := range [][]int64{someInts(r, n), notBelow0(r, n)} {
			w, is := plainPackedWidth(l)
			mustPackedWidth(t, l, w, is)
		}
	}
}

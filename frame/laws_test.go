package frame_test

import (
	"cmp"
	"math/rand/v2"
	"slices"
	"testing"

	"colonnade/api"
	"colonnade/frame"
)

// frameAndBack puts numbers into a frame of each width, and takes them out again.
func frameAndBack(t *testing.T, l []int64) {
	t.Helper()
	want := frame.FrameWidth(l)
	for width := range 65 {
		if width < want {
			mustNotPutFrame(t, l, width, api.ErrUnfit)
			continue
		}
		b, e := frame.PutFrame(l, width)
		base, lanes, f := frame.OpenFrame(b, len(l), width)
		if e != api.OK || f != api.OK || !slices.Equal(b, append(eight(base), lanes...)) {
			t.Fatalf("frame of %s, width %d: %d, %d, %d, %d", brief(l), width, e, base, lanes, f)
		}
		mustValues(t, base, lanes, len(l), width, l)
	}
}

// packedAndBack packs numbers in each width, and takes them out again.
func packedAndBack(t *testing.T, l []int64) {
	t.Helper()
	want, is := frame.PackedWidth(l)
	for width := range 65 {
		if !is || width < want {
			mustNotPutPacked(t, l, width, api.ErrUnfit)
			continue
		}
		b, e := frame.PutPacked(l, width)
		lanes, f := frame.OpenPacked(b, len(l), width)
		if e != api.OK || f != api.OK || !slices.Equal(b, lanes) {
			t.Fatalf("packed %s, width %d: %d, %d, %d", brief(l), width, e, lanes, f)
		}
		mustValues(t, 0, lanes, len(l), width, l)
	}
}

func TestP11_7ThereAndBack(t *testing.T) {
	r := byChance(8)
	lists := edgeLists()
	for n := range 100 {
		lists = append(lists, someInts(r, n), notBelow0(r, n))
	}
	for _, l := range lists {
		frameAndBack(t, l)
		packedAndBack(t, l)
	}
}

// someForm is bytes that may be a frame or packed numbers, their number and their width.
func someForm(r *rand.Rand) (b []byte, n, width int) {
	n, width = r.IntN(6), r.IntN(12)
	if r.IntN(4) == 0 {
		width = 60 + r.IntN(5)
	}
	codes := make([]uint64, n)
	for i := range codes {
		codes[i] = (r.Uint64() >> r.IntN(64)) * uint64(r.IntN(3))
	}
	b = plainLanes(codes, width)
	if r.IntN(2) == 0 {
		b = append(eight((int64(r.Uint64())>>r.IntN(64))*int64(r.IntN(2))), b...)
	}
	return b, n, width
}

// TestP11_7OneForm: whatever bytes are taken, Put writes again of their values.
func TestP11_7OneForm(t *testing.T) {
	r := byChance(9)
	frames, packed := 0, 0
	for range 40000 {
		b, n, width := someForm(r)
		if base, lanes, e := frame.OpenFrame(b, n, width); e == api.OK {
			frames++
			l, e := frame.Values(base, lanes, n, width)
			if e != api.OK || len(l) != n {
				t.Fatalf("Values(%d, %d, %d, %d) = %d, %d", base, lanes, n, width, l, e)
			}
			mustPutFrame(t, l, width, b)
		}
		if lanes, e := frame.OpenPacked(b, n, width); e == api.OK {
			packed++
			l, e := frame.Values(0, lanes, n, width)
			if e != api.OK || len(l) != n {
				t.Fatalf("Values(0, %d, %d, %d) = %d, %d", lanes, n, width, l, e)
			}
			mustPutPacked(t, l, width, b)
		}
	}
	if frames < 4000 || packed < 4000 {
		t.Errorf("only %d frames and %d packed", frames, packed)
	}
}

// TestP11_7EveryByte: all bytes of a base near 0 and of one or two bytes of lanes.
func TestP11_7EveryByte(t *testing.T) {
	for _, base := range []int64{-1, 0, greatest - 2} {
		for low := range 256 {
			for _, high := range []byte{0, 1, 2, 128, 255} {
				b := append(eight(base), byte(low), high)
				for n := range 6 {
					for width := range 10 {
						openAsPlain(t, b, n, width)
						openAsPlain(t, b[:9], n, width)
						openAsPlain(t, b[8:], n, width)
						openAsPlain(t, b[8:9], n, width)
					}
				}
			}
		}
	}
}

func TestP11_7MaxRows(t *testing.T) {
	if testing.Short() {
		t.Skip("has MaxRows numbers")
	}
	l := make([]int64, api.MaxRows)
	for i := range l {
		l[i] = int64(i%1000) - 500
	}
	b, e := frame.PutFrame(l, 10)
	base, lanes, f := frame.OpenFrame(b, len(l), 10)
	if e != api.OK || f != api.OK || base != -500 || len(lanes) != api.MaxRows*10/8 {
		t.Fatalf("a frame of MaxRows: %d, %d, %d, %d", e, f, base, len(lanes))
	}
	back, e := frame.Values(base, lanes, len(l), 10)
	if e != api.OK || !slices.Equal(back, l) {
		t.Errorf("Values of MaxRows: %d, %d", len(back), e)
	}
	back, e = frame.Values(500, lanes, len(l), 10)
	if e != api.OK || len(back) != len(l) || back[1] != 501 || slices.Max(back) != 1499 {
		t.Errorf("Values of MaxRows over 500: %d, %d", len(back), e)
	}
	mustOpenFrame(t, eight(least), api.MaxRows, 0, least, nil)
	mustNotOpenFrame(t, eight(least), api.MaxRows+1, 0, api.ErrLarge)
	back, e = frame.Values(least, nil, api.MaxRows, 0)
	if e != api.OK || len(back) != api.MaxRows || slices.Max(back) != least {
		t.Errorf("Values of MaxRows lanes of no bits: %d, %d", len(back), e)
	}
}

// TestP11_8Order: codes over a base stand to one another as the numbers do.
func TestP11_8Order(t *testing.T) {
	all := edgeInts()
	r := byChance(10)
	for range 40 {
		all = append(all, int64(r.Uint64())>>r.IntN(64))
	}
	for _, base := range all {
		for _, v := range all {
			a, is := frame.Drop(base, v)
			if is != (v >= base) {
				t.Fatalf("Drop(%d, %d): %t", base, v, is)
			}
			for _, w := range all {
				b, has := frame.Drop(base, w)
				if is && has && cmp.Compare(a, b) != cmp.Compare(v, w) {
					t.Fatalf("over %d: %d and %d have %d and %d", base, v, w, a, b)
				}
			}
		}
	}
}

// TestP11_8LiftAndDrop: the one turns what the other says back.
func TestP11_8LiftAndDrop(t *testing.T) {
	r := byChance(11)
	bases, codes := edgeInts(), edgeCodes()
	for range 200 {
		bases = append(bases, int64(r.Uint64())>>r.IntN(64))
		codes = append(codes, r.Uint64()>>r.IntN(64))
	}
	for _, base := range bases {
		for _, v := range bases {
			if code, is := frame.Drop(base, v); is {
				mustLift(t, base, code, v)
			}
		}
		for _, code := range codes {
			v := frame.Lift(base, code)
			if tooGreat(base, code) {
				mustDrop(t, base, v, 0, false)
			} else {
				mustDrop(t, base, v, code, true)
			}
		}
	}
}

func TestP11_9FrameIsNoWider(t *testing.T) {
	r := byChance(12)
	lists := edgeLists()
	for n := range 300 {
		lists = append(lists, notBelow0(r, n), someInts(r, n))
	}
	packed, narrower := 0, 0
	for _, l := range lists {
		w, is := frame.PackedWidth(l)
		if !is {
			continue
		}
		packed++
		if f := frame.FrameWidth(l); f > w {
			t.Errorf("of %s: a frame of width %d, packed %d", brief(l), f, w)
		} else if f < w {
			narrower++
		}
	}
	if packed < 300 || narrower < 20 {
		t.Errorf("only %d packed, %d narrower frames", packed, narrower)
	}
}

// TestW0EveryCall: no bytes and no numbers make a call panic, and each answers as the plain one.
func TestW0EveryCall(t *testing.T) {
	r := byChance(13)
	for range 60 {
		b := make([]byte, r.IntN(80))
		for i := range b {
			b[i] = byte(r.Uint32()) & byte(r.Uint32()) & byte(r.Uint32())
		}
		for _, n := range edgeCounts() {
			for _, width := range edgeWidths() {
				openAsPlain(t, b, n, width)
				valuesAsPlain(t, edgeInts()[r.IntN(len(edgeInts()))], b, n, width)
			}
		}
	}
	for _, n := range edgeCounts() {
		for _, width := range edgeWidths() {
			for size := range 18 {
				openAsPlain(t, make([]byte, size), n, width)
				valuesAsPlain(t, greatest, make([]byte, size), n, width)
			}
		}
	}
}

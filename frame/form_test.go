package frame_test

import (
	"slices"
	"testing"

	"colonnade/api"
	"colonnade/frame"
)

func mustPutFrame(t *testing.T, l []int64, width int, want []byte) {
	t.Helper()
	if got, e := frame.PutFrame(l, width); e != api.OK || !slices.Equal(got, want) {
		t.Errorf("PutFrame(%s, %d) = %s, %d; want %s", brief(l), width, brief(got), e, brief(want))
	}
}

func mustNotPutFrame(t *testing.T, l []int64, width int, want api.Errno) {
	t.Helper()
	if got, e := frame.PutFrame(l, width); e != want || len(got) != 0 {
		t.Errorf("PutFrame(%s, %d) = %s, %d; want %d", brief(l), width, brief(got), e, want)
	}
}

func mustPutPacked(t *testing.T, l []int64, width int, want []byte) {
	t.Helper()
	if got, e := frame.PutPacked(l, width); e != api.OK || !slices.Equal(got, want) {
		t.Errorf("PutPacked(%s, %d) = %s, %d; want %s", brief(l), width, brief(got), e, brief(want))
	}
}

func mustNotPutPacked(t *testing.T, l []int64, width int, want api.Errno) {
	t.Helper()
	if got, e := frame.PutPacked(l, width); e != want || len(got) != 0 {
		t.Errorf("PutPacked(%s, %d) = %s, %d; want %d", brief(l), width, brief(got), e, want)
	}
}

func mustOpenFrame(t *testing.T, b []byte, n, width int, base int64, lanes []byte) {
	t.Helper()
	if got, l, e := frame.OpenFrame(b, n, width); got != base || !slices.Equal(l, lanes) || e != api.OK {
		t.Errorf("OpenFrame(%s, %d, %d) = %d, %s, %d; want %d, %s", brief(b), n, width, got, brief(l), e, base, brief(lanes))
	}
}

func mustNotOpenFrame(t *testing.T, b []byte, n, width int, want api.Errno) {
	t.Helper()
	if got, l, e := frame.OpenFrame(b, n, width); got != 0 || len(l) != 0 || e != want {
		t.Errorf("OpenFrame(%s, %d, %d) = %d, %s, %d; want %d", brief(b), n, width, got, brief(l), e, want)
	}
}

func mustOpenPacked(t *testing.T, b []byte, n, width int) {
	t.Helper()
	if got, e := frame.OpenPacked(b, n, width); !slices.Equal(got, b) || e != api.OK {
		t.Errorf("OpenPacked(%s, %d, %d) = %s, %d", brief(b), n, width, brief(got), e)
	}
}

func mustNotOpenPacked(t *testing.T, b []byte, n, width int, want api.Errno) {
	t.Helper()
	if got, e := frame.OpenPacked(b, n, width); len(got) != 0 || e != want {
		t.Errorf("OpenPacked(%s, %d, %d) = %s, %d; want %d", brief(b), n, width, brief(got), e, want)
	}
}

func mustValues(t *testing.T, base int64, lanes []byte, n, width int, want []int64) {
	t.Helper()
	if got, e := frame.Values(base, lanes, n, width); !slices.Equal(got, want) || e != api.OK {
		t.Errorf("Values(%d, %s, %d, %d) = %s, %d; want %s", base, brief(lanes), n, width, brief(got), e, brief(want))
	}
}

func mustNotValues(t *testing.T, base int64, lanes []byte, n, width int, want api.Errno) {
	t.Helper()
	if got, e := frame.Values(base, lanes, n, width); len(got) != 0 || e != want {
		t.Errorf("Values(%d, %s, %d, %d) = %s, %d; want %d", base, brief(lanes), n, width, brief(got), e, want)
	}
}

// putAsPlain holds PutFrame and PutPacked against the plain ones.
func putAsPlain(t *testing.T, l []int64, width int) {
	t.Helper()
	if b, e := plainPutFrame(l, width); e == api.OK {
		mustPutFrame(t, l, width, b)
	} else {
		mustNotPutFrame(t, l, width, e)
	}
	if b, e := plainPutPacked(l, width); e == api.OK {
		mustPutPacked(t, l, width, b)
	} else {
		mustNotPutPacked(t, l, width, e)
	}
}

// openAsPlain holds OpenFrame and OpenPacked against the plain ones; it answers how many of the two took the bytes.
func openAsPlain(t *testing.T, b []byte, n, width int) int {
	t.Helper()
	taken := 0
	if base, lanes, e := plainOpenFrame(b, n, width); e == api.OK {
		taken++
		mustOpenFrame(t, b, n, width, base, lanes)
	} else {
		mustNotOpenFrame(t, b, n, width, e)
	}
	if _, e := plainOpenPacked(b, n, width); e == api.OK {
		taken++
		mustOpenPacked(t, b, n, width)
	} else {
		mustNotOpenPacked(t, b, n, width, e)
	}
	return taken
}

// valuesAsPlain holds Values against the plain ones.
func valuesAsPlain(t *testing.T, base int64, lanes []byte, n, width int) {
	t.Helper()
	if l, e := plainValues(base, lanes, n, width); e == api.OK {
		mustValues(t, base, lanes, n, width, l)
	} else {
		mustNotValues(t, base, lanes, n, width, e)
	}
}

func TestP11_3PutFrame(t *testing.T) {
	mustPutFrame(t, []int64{}, 0, make([]byte, 8))
	mustPutFrame(t, nil, 64, make([]byte, 8))
	mustPutFrame(t, []int64{-2}, 0, []byte{254, 255, 255, 255, 255, 255, 255, 255})
	mustPutFrame(t, []int64{7, 7, 7}, 0, []byte{7, 0, 0, 0, 0, 0, 0, 0})
	mustPutFrame(t, []int64{7, 7, 7}, 3, []byte{7, 0, 0, 0, 0, 0, 0, 0, 0, 0})
	mustPutFrame(t, []int64{0x0807060504030201}, 0, []byte{1, 2, 3, 4, 5, 6, 7, 8})
	mustPutFrame(t, []int64{least, greatest}, 64, []byte{0, 0, 0, 0, 0, 0, 0, 128, 0, 0, 0, 0, 0, 0, 0, 0, 255, 255, 255, 255, 255, 255, 255, 255})
	mustPutFrame(t, []int64{0, -3, 1}, 3, []byte{253, 255, 255, 255, 255, 255, 255, 255, 3, 1})
	mustNotPutFrame(t, []int64{0, -3, 1}, 2, api.ErrUnfit)
	mustNotPutFrame(t, []int64{least, greatest}, 63, api.ErrUnfit)
	mustNotPutFrame(t, []int64{8, 9}, 0, api.ErrUnfit)
}

func TestP11_3PutPacked(t *testing.T) {
	mustPutPacked(t, []int64{}, 0, nil)
	mustPutPacked(t, nil, 64, nil)
	mustPutPacked(t, []int64{0, 0, 0}, 0, nil)
	mustPutPacked(t, []int64{1, 2, 7}, 3, []byte{209, 1})
	mustPutPacked(t, []int64{7}, 8, []byte{7})
	mustPutPacked(t, []int64{greatest}, 63, []byte{255, 255, 255, 255, 255, 255, 255, 127})
	mustPutPacked(t, []int64{greatest}, 64, []byte{255, 255, 255, 255, 255, 255, 255, 127})
	mustNotPutPacked(t, []int64{greatest}, 62, api.ErrUnfit)
	mustNotPutPacked(t, []int64{1}, 0, api.ErrUnfit)
	mustNotPutPacked(t, []int64{least}, 64, api.ErrUnfit)
	mustNotPutPacked(t, []int64{5, -1, 5}, 64, api.ErrUnfit)
	mustNotPutPacked(t, []int64{-1, -1}, 0, api.ErrUnfit)
}

// TestP11_3EveryWidth: numbers at the ends, and some by chance, with each width and with what is none.
func TestP11_3EveryWidth(t *testing.T) {
	lists := edgeLists()
	r := byChance(5)
	for n := range 60 {
		lists = append(lists, someInts(r, n), notBelow0(r, n))
	}
	for _, l := range lists {
		for _, width := range edgeWidths() {
			putAsPlain(t, l, width)
		}
	}
}

// TestP11_3Order: that a width is none is told ahead of what does not fit it.
func TestP11_3Order(t *testing.T) {
	for _, width := range []int{-1, 65} {
		for _, l := range [][]int64{nil, {0}, {-1}, {least, greatest}} {
			mustNotPutFrame(t, l, width, api.ErrWidth)
			mustNotPutPacked(t, l, width, api.ErrWidth)
		}
	}
}

// TestP11_3MaxRows: just MaxRows numbers, and one more, which is told ahead of all else.
func TestP11_3MaxRows(t *testing.T) {
	if testing.Short() {
		t.Skip("has MaxRows numbers")
	}
	l := make([]int64, api.MaxRows+1)
	for _, width := range []int{-1, 0, 64, 65} {
		mustNotPutFrame(t, l, width, api.ErrLarge)
		mustNotPutPacked(t, l, width, api.ErrLarge)
	}
	mustPutFrame(t, l[:api.MaxRows], 0, make([]byte, 8))
	mustPutPacked(t, l[:api.MaxRows], 0, nil)
	l[api.MaxRows-1] = -1
	mustNotPutFrame(t, l, 0, api.ErrLarge)
	mustNotPutPacked(t, l, 1, api.ErrLarge)
	mustNotPutFrame(t, l[:api.MaxRows], 0, api.ErrUnfit)
	mustNotPutPacked(t, l[:api.MaxRows], 1, api.ErrUnfit)
	want := append(eight(-1), slices.Repeat([]byte{255}, api.MaxRows/8)...)
	want[len(want)-1] = 127
	mustPutFrame(t, l[:api.MaxRows], 1, want)
	mustOpenFrame(t, want, api.MaxRows, 1, -1, want[8:])
	mustNotOpenFrame(t, want, api.MaxRows+1, 1, api.ErrLarge)
	mustNotOpenFrame(t, want[:len(want)-1], api.MaxRows, 1, api.ErrCut)
	mustValues(t, -1, want[8:], api.MaxRows, 1, l[:api.MaxRows])
	want[len(want)-1] = 255
	mustNotOpenFrame(t, want, api.MaxRows, 1, api.ErrForm)
	mustOpenPacked(t, want[8:], api.MaxRows, 1)
	mustNotOpenPacked(t, want[8:], api.MaxRows+1, 1, api.ErrLarge)
}

func TestP11_4OpenFrame(t *testing.T) {
	b := []byte{254, 255, 255, 255, 255, 255, 255, 255, 0b10_00_01_11, 0b01}
	mustOpenFrame(t, b, 5, 2, -2, b[8:])
	mustOpenFrame(t, b, 6, 2, -2, b[8:])
	mustOpenFrame(t, b, 8, 2, -2, b[8:])
	mustNotOpenFrame(t, b, 9, 2, api.ErrCut)
	mustNotOpenFrame(t, b, 4, 2, api.ErrLeft)
	mustNotOpenFrame(t, b[:9], 5, 2, api.ErrCut)
	mustNotOpenFrame(t, append(slices.Clone(b), 0), 5, 2, api.ErrLeft)

	mustOpenFrame(t, make([]byte, 8), 0, 0, 0, nil)
	mustOpenFrame(t, make([]byte, 8), 0, 64, 0, nil)
	mustOpenFrame(t, eight(least), 3, 0, least, nil)
	mustOpenFrame(t, eight(greatest), 1, 0, greatest, nil)
	mustOpenFrame(t, append(eight(least), eight(0)...), 1, 64, least, eight(0))
}

// TestP11_4Counts: what layer 2 refuses of counts and widths is told ahead of what the bytes have, in its order.
func TestP11_4Counts(t *testing.T) {
	for _, b := range [][]byte{nil, make([]byte, 7), make([]byte, 8), make([]byte, 9), {1, 0, 0, 0, 0, 0, 0, 0}} {
		for _, width := range []int{-1, 0, 7, 64, 65} {
			mustNotOpenFrame(t, b, -1, width, api.ErrArg)
			mustNotOpenFrame(t, b, api.MaxRows+1, width, api.ErrLarge)
			mustNotOpenPacked(t, b, -1, width, api.ErrArg)
			mustNotOpenPacked(t, b, api.MaxRows+1, width, api.ErrLarge)
		}
		for _, n := range []int{0, 1, api.MaxRows} {
			mustNotOpenFrame(t, b, n, -1, api.ErrWidth)
			mustNotOpenFrame(t, b, n, 65, api.ErrWidth)
			mustNotOpenPacked(t, b, n, -1, api.ErrWidth)
			mustNotOpenPacked(t, b, n, 65, api.ErrWidth)
		}
	}
}

// TestP11_4Cut: fewer than the base's bytes, and fewer behind them, are told ahead of what the bytes say.
func TestP11_4Cut(t *testing.T) {
	whole := append(slices.Repeat([]byte{255}, 7), 127, 255, 255)
	for n := range 8 {
		mustNotOpenFrame(t, whole[:n], 0, 0, api.ErrCut)
		mustNotOpenFrame(t, whole[:n], 3, 0, api.ErrCut)
		mustNotOpenFrame(t, whole[:n], 3, 5, api.ErrCut)
		mustNotOpenFrame(t, make([]byte, n), 0, 64, api.ErrCut)
	}
	mustNotOpenFrame(t, whole, 3, 6, api.ErrCut)
	mustNotOpenFrame(t, whole[:9], 3, 5, api.ErrCut)
	mustNotOpenFrame(t, whole[:8], 3, 5, api.ErrCut)
	mustNotOpenFrame(t, make([]byte, 8), api.MaxRows, 64, api.ErrCut)
}

// TestP11_4Left: bytes and bits that are left are told ahead of what the base and the lanes say.
func TestP11_4Left(t *testing.T) {
	mustNotOpenFrame(t, append(eight(1), 0), 0, 0, api.ErrLeft)
	mustNotOpenFrame(t, append(eight(1), 0), 0, 5, api.ErrLeft)
	mustNotOpenFrame(t, append(eight(0), 0), 3, 0, api.ErrLeft)
	mustNotOpenFrame(t, append(eight(greatest), 255, 255, 0), 3, 5, api.ErrLeft)
	for bit := range 8 {
		b := append(eight(greatest), 1<<bit)
		for n := 1; n <= 8; n++ {
			switch {
			case bit >= n:
				mustNotOpenFrame(t, b, n, 1, api.ErrLeft)
				mustNotOpenPacked(t, b[8:], n, 1, api.ErrLeft)
			default:
				mustNotOpenFrame(t, b, n, 1, api.ErrForm)
				mustOpenPacked(t, b[8:], n, 1)
			}
		}
	}
}

// TestP11_4Base: a base that is not 0 without numbers.
func TestP11_4Base(t *testing.T) {
	for _, base := range edgeInts() {
		for _, width := range []int{0, 1, 8, 63, 64} {
			if base == 0 {
				mustOpenFrame(t, eight(base), 0, width, 0, nil)
			} else {
				mustNotOpenFrame(t, eight(base), 0, width, api.ErrForm)
			}
			mustNotOpenFrame(t, append(eight(base), 0), 0, width, api.ErrLeft)
		}
	}
}

// TestP11_4NoLane0: a lane that is 0 is wanted, wherever it stands; a lane of no bits is one.
func TestP11_4NoLane0(t *testing.T) {
	for width := 1; width <= 64; width++ {
		for n := 1; n <= 12; n++ {
			codes := make([]uint64, n)
			for i := range codes {
				codes[i] = 1 << (i % width)
			}
			b := append(eight(least), plainLanes(codes, width)...)
			mustNotOpenFrame(t, b, n, width, api.ErrForm)
			for i := range codes {
				was := codes[i]
				codes[i] = 0
				b := append(eight(least), plainLanes(codes, width)...)
				mustOpenFrame(t, b, n, width, least, b[8:])
				codes[i] = was
			}
		}
	}
}

// TestP11_4TooGreat: base + code is just 2^63 - 1, and one more, in the first lane, the last and between.
func TestP11_4TooGreat(t *testing.T) {
	for _, base := range edgeInts() {
		most := plainCode(base, greatest).Uint64()
		for at := range 3 {
			codes := make([]uint64, 4)
			codes[3-at] = most
			b := append(eight(base), plainLanes(codes, 64)...)
			mustOpenFrame(t, b, 4, 64, base, b[8:])
			mustValues(t, base, b[8:], 4, 64, []int64{base, sum(base, codes[1]).Int64(), sum(base, codes[2]).Int64(), sum(base, codes[3]).Int64()})
			for _, more := range []uint64{1, 2, 1<<64 - 1 - most} {
				if most+more <= most {
					continue
				}
				codes[3-at] = most + more
				b = append(eight(base), plainLanes(codes, 64)...)
				mustNotOpenFrame(t, b, 4, 64, api.ErrForm)
				mustNotValues(t, base, b[8:], 4, 64, api.ErrForm)
			}
		}
	}
	mustOpenFrame(t, append(eight(greatest-1), 0b10), 2, 1, greatest-1, []byte{0b10})
	mustNotOpenFrame(t, append(eight(greatest), 0b10), 2, 1, api.ErrForm)
}

// TestP11_4AsPlain: frames as they are, cut, grown and with a bit turned, with counts and widths near by.
func TestP11_4AsPlain(t *testing.T) {
	r := byChance(6)
	for range 3000 {
		n := r.IntN(9)
		l := someInts(r, n)
		width := min(64, plainFrameWidth(l)+r.IntN(3))
		b, _ := plainPutFrame(l, width)
		mustOpenFrame(t, b, n, width, plainLeast(l), b[8:])
		for range r.IntN(3) {
			bit := r.IntN(8 * len(b))
			b[bit/8] ^= 1 << (bit % 8)
		}
		switch r.IntN(4) {
		case 0:
			b = b[:r.IntN(len(b))]
		case 1:
			b = append(b, byte(r.IntN(2)))
		}
		openAsPlain(t, b, n, width)
		openAsPlain(t, b, n+r.IntN(3)-1, width+r.IntN(3)-1)
		for _, at := range []int{min(8, len(b)), 0} {
			valuesAsPlain(t, int64(r.Uint64()), b[at:], n, width)
			valuesAsPlain(t, 0, b[at:], n+r.IntN(3)-1, width+r.IntN(3)-1)
		}
	}
}

func TestP11_5OpenPacked(t *testing.T) {
	mustOpenPacked(t, nil, 0, 0)
	mustOpenPacked(t, nil, 0, 64)
	mustOpenPacked(t, nil, 3, 0)
	mustOpenPacked(t, nil, api.MaxRows, 0)
	mustOpenPacked(t, []byte{209, 1}, 3, 3)
	mustOpenPacked(t, []byte{209, 1}, 5, 3)
	mustOpenPacked(t, []byte{255}, 1, 8)
	mustNotOpenPacked(t, []byte{209, 1}, 6, 3, api.ErrCut)
	mustNotOpenPacked(t, []byte{209}, 3, 3, api.ErrCut)
	mustNotOpenPacked(t, nil, 1, 1, api.ErrCut)
	mustNotOpenPacked(t, []byte{209, 1, 0}, 3, 3, api.ErrLeft)
	mustNotOpenPacked(t, []byte{209, 3}, 3, 3, api.ErrLeft)
	mustNotOpenPacked(t, []byte{209, 128}, 3, 3, api.ErrLeft)
	mustNotOpenPacked(t, []byte{0}, 0, 3, api.ErrLeft)
	mustNotOpenPacked(t, []byte{0}, 3, 0, api.ErrLeft)
	mustNotOpenPacked(t, nil, api.MaxRows, 64, api.ErrCut)
}

// TestP11_5TooGreat: a lane of just 2^63 - 1, and one more, in the first lane, the last and between; of fewer bits no lane is so great.
func TestP11_5TooGreat(t *testing.T) {
	for at := range 3 {
		codes := make([]uint64, 3)
		for _, code := range []uint64{1<<63 - 1, 1 << 63, 1<<63 + 1, 1<<64 - 1} {
			codes[at] = code
			b := plainLanes(codes, 64)
			if code < 1<<63 {
				mustOpenPacked(t, b, 3, 64)
				continue
			}
			mustNotOpenPacked(t, b, 3, 64, api.ErrForm)
			mustNotOpenPacked(t, append(b, 0), 3, 64, api.ErrLeft)
			mustNotOpenPacked(t, b[:23], 3, 64, api.ErrCut)
		}
	}
	for width := range 64 {
		mustOpenPacked(t, plainLanes(slices.Repeat([]uint64{1<<64 - 1}, 8), width), 8, width)
	}
}

func TestP11_6Values(t *testing.T) {
	mustValues(t, 7, nil, 0, 0, nil)
	mustValues(t, 7, nil, 0, 64, nil)
	mustValues(t, -7, nil, 3, 0, []int64{-7, -7, -7})
	mustValues(t, greatest, nil, 1, 0, []int64{greatest})
	mustValues(t, -3, []byte{209, 1}, 3, 3, []int64{-2, -1, 4})
	mustValues(t, -3, []byte{209, 1}, 4, 3, []int64{-2, -1, 4, -3})
	mustValues(t, 5, []byte{1}, 1, 1, []int64{6})
	mustValues(t, least, slices.Repeat([]byte{255}, 8), 1, 64, []int64{greatest})
	mustValues(t, least, eight(least), 1, 64, []int64{0})
	mustValues(t, 0, eight(greatest), 1, 64, []int64{greatest})
	mustNotValues(t, 0, eight(least), 1, 64, api.ErrForm)
	mustNotValues(t, 1, eight(greatest), 1, 64, api.ErrForm)
	mustNotValues(t, least+1, slices.Repeat([]byte{255}, 8), 1, 64, api.ErrForm)
	mustNotValues(t, greatest, []byte{2}, 2, 1, api.ErrForm)
}

// TestP11_6Order: a width that is none is told ahead of a count that may not be, as Unpack has it; the lanes behind both, and last what they say.
func TestP11_6Order(t *testing.T) {
	for _, base := range []int64{least, 0, greatest} {
		for _, width := range []int{-1, 65} {
			for _, n := range []int{-1, 0, 1, api.MaxRows, api.MaxRows + 1} {
				mustNotValues(t, base, []byte{255}, n, width, api.ErrWidth)
			}
		}
		for _, width := range []int{0, 1, 8, 64} {
			mustNotValues(t, base, []byte{255}, -1, width, api.ErrArg)
			mustNotValues(t, base, []byte{255}, api.MaxRows+1, width, api.ErrLarge)
		}
		mustNotValues(t, base, []byte{255}, 9, 1, api.ErrCut)
		mustNotValues(t, base, nil, api.MaxRows, 64, api.ErrCut)
		mustNotValues(t, base, []byte{255, 0}, 8, 1, api.ErrLeft)
		mustNotValues(t, base, []byte{255}, 7, 1, api.ErrLeft)
		mustNotValues(t, base, []byte{255}, 0, 64, api.ErrLeft)
		mustNotValues(t, base, []byte{0}, 8, 0, api.ErrLeft)
	}
}

func TestP11_6AsPlain(t *testing.T) {
	r := byChance(7)
	for _, base := range edgeInts() {
		for width := range 65 {
			for _, n := range []int{0, 1, 2, 7, 8, 9} {
				codes := make([]uint64, n)
				for i := range codes {
					codes[i] = r.Uint64() >> r.IntN(64)
				}
				valuesAsPlain(t, base, plainLanes(codes, width), n, width)
			}
		}
	}
}

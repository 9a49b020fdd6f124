package pack_test

import (
	"math"
	"slices"
	"testing"

	"colonnade/api"
	"colonnade/pack"
)

func TestP2_1Width(t *testing.T) {
	for v, want := range map[uint64]int{0: 0, 1: 1, 2: 2, 3: 2, 4: 3, 7: 3, 8: 4, 255: 8, 256: 9, 1<<63 - 1: 63, 1 << 63: 64, 1<<63 + 1: 64, math.MaxUint64: 64} {
		if w := pack.Width(v); w != want {
			t.Errorf("Width(%d) = %d, not %d", v, w, want)
		}
	}
	for k := range 64 {
		for _, v := range []uint64{1<<k - 1, 1 << k, 1<<k + 1} {
			w := pack.Width(v)
			if !fits(v, w) || w > 0 && fits(v, w-1) {
				t.Errorf("Width(%d) = %d is not the least that it fits", v, w)
			}
		}
	}
}

func TestP2_2Bytes(t *testing.T) {
	for _, n := range append([]int{1000, api.MaxRows - 1, api.MaxRows}, counts...) {
		for width := range 65 {
			want := n * width / 8
			if n*width%8 != 0 {
				want++
			}
			if size, e := pack.Bytes(n, width); size != want || e != api.OK {
				t.Errorf("Bytes(%d, %d) = %d, %d, not %d", n, width, size, e, want)
			}
		}
	}
}

func TestP2_2BytesWrong(t *testing.T) {
	fails := func(n, width int, want api.Errno) {
		t.Helper()
		if size, e := pack.Bytes(n, width); size != 0 || e != want {
			t.Errorf("Bytes(%d, %d) = %d, %d, not error %d", n, width, size, e, want)
		}
	}
	for _, width := range append([]int{0, 1, 8, 64}, notWidths...) {
		for _, n := range []int{-1, -2, math.MinInt} {
			fails(n, width, api.ErrArg)
		}
		for _, n := range []int{api.MaxRows + 1, math.MaxInt} {
			fails(n, width, api.ErrLarge)
		}
	}
	for _, width := range notWidths {
		for _, n := range []int{0, 1, 5, api.MaxRows} {
			fails(n, width, api.ErrWidth)
		}
	}
}

func TestP2_3Pack(t *testing.T) {
	packs(t, []uint8{1, 2, 7}, 3, []byte{209, 1})
	packs(t, []uint16{255, 1}, 8, []byte{255, 1})
	packs(t, []uint32{0x12345678}, 32, []byte{0x78, 0x56, 0x34, 0x12})
	packs(t, []uint64{1 << 63, 1}, 64, []byte{0, 0, 0, 0, 0, 0, 0, 128, 1, 0, 0, 0, 0, 0, 0, 0})
	packs(t, []uint64{1, 1}, 63, []byte{1, 0, 0, 0, 0, 0, 0, 128, 0, 0, 0, 0, 0, 0, 0, 0})
	packs(t, []uint64{0, 0}, 0, nil)
	packs[uint64](t, nil, 64, nil)
	packs[uint8](t, nil, 0, nil)
}

func TestP2_3PackEachKind(t *testing.T) {
	packEach[uint8](t)
	packEach[uint16](t)
	packEach[uint32](t)
	packEach[uint64](t)
	packEach[tiny](t)
	packEach[small](t)
	packEach[mid](t)
	packEach[big](t)
}

func packEach[T pack.Lane](t *testing.T) {
	t.Helper()
	everyList(func(width int, l []T) {
		packs(t, l, width, lanes(l, width))
	})
}

func TestP2_3PackWrong(t *testing.T) {
	packWrong[uint8](t)
	packWrong[uint16](t)
	packWrong[uint32](t)
	packWrong[uint64](t)
	packWrong[tiny](t)
	packWrong[big](t)
}

func packWrong[T pack.Lane](t *testing.T) {
	t.Helper()
	most := ^T(0)
	for _, width := range notWidths {
		packFails(t, []T{}, width, api.ErrWidth)
		packFails(t, []T{0}, width, api.ErrWidth)
		packFails(t, []T{most, 1}, width, api.ErrWidth)
	}
	for width := range kindBits[T]() {
		least := T(1) << width // the least that does not fit
		for _, v := range []T{least, most} {
			packFails(t, []T{v}, width, api.ErrOver)
			packFails(t, []T{v, 0, 0}, width, api.ErrOver)
			packFails(t, []T{0, v, 0}, width, api.ErrOver)
			packFails(t, []T{0, 0, v}, width, api.ErrOver)
		}
		packs(t, []T{0, least - 1, 0}, width, lanes([]T{0, least - 1, 0}, width))
	}
}

func TestP2_3PackMany(t *testing.T) {
	l := make([]uint8, api.MaxRows+1)
	for i := range l {
		l[i] = 1
	}
	packs(t, l[:api.MaxRows], 1, slices.Repeat([]byte{255}, api.MaxRows/8))
	packs(t, l[:api.MaxRows], 4, slices.Repeat([]byte{17}, api.MaxRows/2))
	packs(t, make([]uint8, api.MaxRows), 0, nil)
	for _, width := range append([]int{0, 1, 64}, notWidths...) { // ahead of ErrWidth, and ahead of ErrOver at width 0
		packFails(t, l, width, api.ErrLarge)
	}
}

func TestP2_4Unpack(t *testing.T) {
	unpacks(t, []byte{209, 1}, 3, []uint8{1, 2, 7})
	unpacks(t, []byte{0, 1}, 16, []uint16{256})
	unpacks(t, []byte{255, 0}, 16, []uint8{255})
	unpacks(t, []byte{0x78, 0x56, 0x34, 0x12}, 32, []uint32{0x12345678})
	unpacks(t, []byte{0, 0, 0, 0, 0, 0, 0, 128}, 64, []uint64{1 << 63})
	unpacks(t, nil, 0, []uint64{0, 0})
	unpacks(t, nil, 0, []uint8{})
	unpacks(t, nil, 64, []mid{})
}

func TestP2_4UnpackEachKind(t *testing.T) {
	unpackEach[uint8](t)
	unpackEach[uint16](t)
	unpackEach[uint32](t)
	unpackEach[uint64](t)
	unpackEach[tiny](t)
	unpackEach[small](t)
	unpackEach[mid](t)
	unpackEach[big](t)
}

func unpackEach[T pack.Lane](t *testing.T) {
	t.Helper()
	everyList(func(width int, l []T) {
		n, b := len(l), lanes(l, width)
		unpacks(t, b, width, l)
		if len(b) > 0 {
			unpackFails[T](t, b[:len(b)-1], width, n, api.ErrCut)
			unpackFails[T](t, nil, width, n, api.ErrCut)
		}
		unpackFails[T](t, append(slices.Clone(b), 0), width, n, api.ErrLeft)
		unpackFails[T](t, append(slices.Clone(b), 1), width, n, api.ErrLeft)
		unpackFails[T](t, append(slices.Clone(b), make([]byte, 20)...), width, n, api.ErrLeft)
		for bit := n * width; bit < 8*len(b); bit++ {
			tail := slices.Clone(b)
			tail[bit/8] |= 1 << (bit % 8)
			unpackFails[T](t, tail, width, n, api.ErrLeft)
		}
	})
}

func TestP2_4UnpackOver(t *testing.T) {
	unpackOver[uint8](t)
	unpackOver[uint16](t)
	unpackOver[uint32](t)
	unpackOver[tiny](t)
	unpackOver[small](t)
	unpackOver[mid](t)
}

func unpackOver[T pack.Lane](t *testing.T) {
	t.Helper()
	k := kindBits[T]()
	for width := k + 1; width <= 64; width++ {
		for _, v := range []uint64{1 << k, 1<<k + 1, 1 << (width - 1)} {
			for at := range 5 {
				l := []uint64{1, 0, 1<<k - 1, 1, 0}
				l[at] = v
				b := lanes(l, width)
				unpackFails[T](t, b, width, 5, api.ErrOver)
				unpackFails[T](t, b[:len(b)-1], width, 5, api.ErrCut)
				unpackFails[T](t, append(b, 0), width, 5, api.ErrLeft)
				if 5*width%8 != 0 {
					b[len(b)-1] |= 128
					unpackFails[T](t, b, width, 5, api.ErrLeft)
				}
			}
		}
	}
}

func TestP2_4UnpackWrong(t *testing.T) {
	for _, b := range [][]byte{nil, {0}, {255, 255}, make([]byte, 100)} {
		for _, width := range notWidths {
			for _, n := range []int{0, 1, -1, math.MinInt, api.MaxRows, api.MaxRows + 1, math.MaxInt} {
				unpackFails[uint8](t, b, width, n, api.ErrWidth)
				unpackFails[uint64](t, b, width, n, api.ErrWidth)
			}
		}
		for _, width := range []int{0, 1, 7, 8, 9, 63, 64} {
			for _, n := range []int{-1, -8, math.MinInt} {
				unpackFails[uint8](t, b, width, n, api.ErrArg)
			}
			for _, n := range []int{api.MaxRows + 1, 1 << 58, 1 << 60, math.MaxInt} { // times some widths these wrap round to few bits
				unpackFails[uint8](t, b, width, n, api.ErrLarge)
			}
		}
	}
}

func TestP2_4UnpackMany(t *testing.T) {
	unpacks(t, nil, 0, make([]uint8, api.MaxRows))
	unpackFails[uint8](t, nil, 0, api.MaxRows+1, api.ErrLarge)
	unpackFails[uint8](t, []byte{0}, 0, api.MaxRows, api.ErrLeft)
	b := slices.Repeat([]byte{255}, api.MaxRows/8)
	unpacks(t, b, 1, slices.Repeat([]uint8{1}, api.MaxRows))
	unpackFails[uint8](t, b, 2, api.MaxRows, api.ErrCut)
	unpackFails[uint8](t, append(b, 0), 1, api.MaxRows, api.ErrLeft)
}

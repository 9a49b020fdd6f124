package pack_test

import (
	"math/rand/v2"
	"slices"
	"testing"

	"colonnade/api"
	"colonnade/pack"
)

func TestP2_7ThereAndBack(t *testing.T) {
	there[uint8](t)
	there[uint16](t)
	there[uint32](t)
	there[uint64](t)
	there[small](t)
	there[mid](t)
}

func there[T pack.Lane](t *testing.T) {
	t.Helper()
	everyList(func(width int, l []T) {
		b, e := pack.Pack(l, width)
		if size, f := pack.Bytes(len(l), width); e != api.OK || f != api.OK || len(b) != size {
			t.Fatalf("Pack(%v, %d) has %d bytes, not %d", l, width, len(b), size)
		}
		unpacks(t, b, width, l)
	})
}

// back packs again what Unpack takes, and answers whether it did.
func back[T pack.Lane](t *testing.T, b []byte, width, n int) bool {
	t.Helper()
	l, e := pack.Unpack[T](b, width, n)
	if e != api.OK {
		return false
	}
	packs(t, l, width, b)
	return true
}

func TestP2_7OneForm(t *testing.T) {
	took := 0
	for _, b := range fewBytes() {
		for width := range 18 {
			for n := range 18 {
				if back[uint8](t, b, width, n) {
					took++
				}
				if back[uint64](t, b, width, n) {
					took++
				}
			}
		}
	}
	if took < 10000 {
		t.Errorf("Unpack took only %d", took)
	}
	r := rand.New(rand.NewPCG(2, 7))
	for width := range 65 {
		for range 200 {
			n := r.IntN(20)
			size, _ := pack.Bytes(n, width)
			b := make([]byte, size)
			for i := range b {
				b[i] = byte(r.Uint32())
			}
			back[uint8](t, b, width, n)
			back[uint16](t, b, width, n)
			back[uint32](t, b, width, n)
			if whole := n*width%8 == 0; back[uint64](t, b, width, n) != (whole || b[size-1]>>(n*width%8) == 0) {
				t.Fatalf("Unpack(%v, %d, %d) takes what is no lanes, or not what is", b, width, n)
			}
		}
	}
}

// fewBytes are all lists of none and one byte, and many of two.
func fewBytes() [][]byte {
	all := [][]byte{nil}
	for v := range 256 {
		all = append(all, []byte{byte(v)})
		for w := v % 17; w < 256; w += 17 {
			all = append(all, []byte{byte(v), byte(w)})
		}
	}
	return all
}

func TestP2_8AtAndWord(t *testing.T) {
	everyList(func(width int, l []uint64) {
		b, _ := pack.Pack(l, width)
		for i, v := range l {
			if got, is := pack.At(b, width, i); got != v || !is {
				t.Fatalf("At(Pack(%v, %d), %d) = %d, %t", l, width, i, got, is)
			}
			if got := pack.Word(b, i*width) << (64 - width) >> (64 - width); width > 0 && got != v {
				t.Fatalf("Word(Pack(%v, %d), %d) begins with %d", l, width, i*width, got)
			}
		}
	})
}

func TestP2_8Widths(t *testing.T) {
	r := rand.New(rand.NewPCG(2, 8))
	for range 300 {
		l, most := make([]uint64, r.IntN(6)), 0
		for i := range l {
			l[i] = r.Uint64() >> r.IntN(65)
			most = max(most, pack.Width(l[i]))
		}
		for width := -2; width <= 66; width++ {
			if _, e := pack.Pack(l, width); (e == api.OK) != (width >= most && width <= 64) {
				t.Fatalf("Pack(%v, %d) answers %d, where the greatest width is %d", l, width, e, most)
			}
		}
	}
}

// as is the same numbers of another kind.
func as[T pack.Lane](l []uint8) []T {
	var o []T
	for _, v := range l {
		o = append(o, T(v))
	}
	return o
}

func TestP2_8OtherKinds(t *testing.T) {
	everyList(func(width int, l []uint8) {
		b, _ := pack.Pack(l, width)
		packs(t, as[uint16](l), width, b)
		packs(t, as[uint32](l), width, b)
		packs(t, as[uint64](l), width, b)
		packs(t, as[tiny](l), width, b)
		packs(t, as[big](l), width, b)
	})
}

func TestP2_9OneBehindTheOther(t *testing.T) {
	for width := range 65 {
		for _, n := range counts {
			if n*width%8 != 0 {
				continue
			}
			for _, m := range counts {
				for i, first := range lists[uint32](n, width) {
					second := lists[uint32](m, width)[3-i]
					a, _ := pack.Pack(first, width)
					b, _ := pack.Pack(second, width)
					packs(t, slices.Concat(first, second), width, slices.Concat(a, b))
				}
			}
		}
	}
}

func TestPageArgumentsStay(t *testing.T) {
	room := []uint16{1, 2, 7, 5, 6}
	b, _ := pack.Pack(room[:3], 3)
	if !slices.Equal(room, []uint16{1, 2, 7, 5, 6}) {
		t.Errorf("Pack turned what was handed in: %v", room)
	}
	room[0] = 0
	if !slices.Equal(b, []byte{209, 1}) {
		t.Errorf("the lanes turn with what they were made of: %v", b)
	}
	lanes := []byte{209, 1, 3, 4}
	l, _ := pack.Unpack[uint8](lanes[:2], 3, 3)
	pack.At(lanes[:2], 3, 2)
	pack.Word(lanes[:2], 6)
	if !slices.Equal(lanes, []byte{209, 1, 3, 4}) {
		t.Errorf("Unpack, At or Word turned what was handed in: %v", lanes)
	}
	clear(lanes)
	if !slices.Equal(l, []uint8{1, 2, 7}) {
		t.Errorf("the numbers turn with what they were taken from: %v", l)
	}
}

func TestPageSpareRoomIsNotRead(t *testing.T) {
	room := []byte{209, 1, 255, 255, 255, 255, 255, 255, 255, 255, 255}
	if w := pack.Word(room[:2], 0); w != 465 {
		t.Errorf("Word reads behind the last byte: %x", w)
	}
	if v, is := pack.At(room[:2], 16, 1); v != 0 || is {
		t.Errorf("At reads behind the last byte: %d, %t", v, is)
	}
	unpacks(t, room[:2], 3, []uint8{1, 2, 7})
}

func TestPageAnswersAreNew(t *testing.T) {
	bytes8, numbers := []byte{1, 2, 3, 4, 5, 6, 7, 8}, []uint8{1, 2, 3, 4, 5, 6, 7, 8}
	b, _ := pack.Pack(numbers, 8)
	again, _ := pack.Pack(numbers, 8)
	clear(b[:cap(b)])
	l, _ := pack.Unpack[uint8](bytes8, 8, 8)
	l2, _ := pack.Unpack[uint8](bytes8, 8, 8)
	clear(l[:cap(l)])
	for _, x := range [][]byte{bytes8, numbers, again, l2} {
		if !slices.Equal(x, []byte{1, 2, 3, 4, 5, 6, 7, 8}) {
			t.Errorf("an answer shares memory: %v", x)
		}
	}
}

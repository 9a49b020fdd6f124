package lanes_test

import (
	"math"
	"slices"
	"testing"

	"colonnade/api"
	"colonnade/bits"
	"colonnade/lanes"
)

// answers are the sets of all calls, of packed numbers that have no fault, one that holds some of them and one of each whole.
func answers(t *testing.T, b []byte, width, n int, l []uint64) []*bits.Set {
	t.Helper()
	var all []*bits.Set
	keep := func(s *bits.Set, e api.Errno) {
		t.Helper()
		if e != api.OK {
			t.Fatal(e)
		}
		all = append(all, s)
	}
	for _, op := range ops {
		keep(lanes.Test(b, width, n, op, 5))
		keep(lanes.Test(b, width, n, op, math.MaxUint64))
	}
	keep(lanes.Between(b, width, n, 1, 5))
	keep(lanes.Between(b, width, n, 0, math.MaxUint64))
	keep(lanes.Between(b, width, n, 5, 1))
	keep(lanes.In(b, width, n, l...))
	keep(lanes.In(b, width, n))
	return all
}

func TestP3_10ArgumentsStay(t *testing.T) {
	room := []byte{0xD5, 0x01, 0xFF, 0xFF, 0xFF, 0xFF, 0xFF, 0xFF, 0xFF, 0xFF}
	asked := []uint64{9, 7, 0, 7, 3, 1}
	wereBytes, wereAsked := slices.Clone(room), slices.Clone(asked)
	all := answers(t, room[:2], 3, 4, asked[:4])
	hi, lo, e := lanes.Sum(room[:2], 3, 4)
	least, greatest, f := lanes.Ends(room[:2], 3, 4)
	if hi != 0 || lo != 14 || e != api.OK || least != 0 || greatest != 7 || f != api.OK {
		t.Errorf("the spare room is read: %d %d, %d %d", hi, lo, least, greatest)
	}
	for n := range 40 { // long lists are looked up in another way
		asked = append(asked, uint64(n)%8)
		wereAsked = append(wereAsked, uint64(n)%8)
	}
	answers(t, room[:2], 3, 4, asked)
	answers(t, room[:8:9], 16, 4, asked)
	wide := slices.Concat([]uint64{1 << 40}, asked, []uint64{9, 8, 1 << 50, 3, 2, 1})
	for n := range uint64(40) {
		wide = append(wide, 100-n)
	}
	wereWide := slices.Clone(wide)
	answers(t, room[:8:9], 16, 4, wide[:60])
	if !slices.Equal(room, wereBytes) || !slices.Equal(asked, wereAsked) || !slices.Equal(wide, wereWide) {
		t.Error("what was handed in has changed")
	}
	kept := make([][]uint64, len(all))
	for i, s := range all {
		kept[i] = s.Words()
	}
	clear(room)
	clear(asked)
	for i, s := range all {
		if !slices.Equal(s.Words(), kept[i]) {
			t.Errorf("the answer %d turns with what was handed in", i)
		}
	}
}

func TestP3_10AnswersAreNew(t *testing.T) {
	for _, x := range []struct {
		b        []byte
		width, n int
	}{{examples, 3, 4}, {nil, 0, 70}} {
		first, again := answers(t, x.b, x.width, x.n, []uint64{7, 0}), answers(t, x.b, x.width, x.n, []uint64{7, 0})
		for i, s := range first {
			for k := range x.n {
				s.Put(k, !s.Get(k))
			}
			for j, o := range slices.Concat(first[i+1:], again) {
				if o == s {
					t.Fatalf("the answer %d is one with %d of the others", i, j)
				}
			}
		}
		for i, s := range answers(t, x.b, x.width, x.n, []uint64{7, 0}) {
			if !slices.Equal(s.Words(), again[i].Words()) {
				t.Errorf("the answer %d has turned with an earlier one", i)
			}
		}
	}
}

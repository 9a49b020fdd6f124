package zone_test

import (
	"bytes"
	"math"
	"slices"
	"strings"
	"testing"

	"colonnade/api"
	"colonnade/cursor"
	"colonnade/zone"
)

func mustPut(t *testing.T, col api.Column, z api.Zone, want []byte) {
	t.Helper()
	if b, e := zone.Put(col, z); e != api.OK || !bytes.Equal(b, want) {
		t.Fatalf("Put(%s, %s) = %s, %d; want %s", brief(col), brief(z), brief(b), e, brief(want))
	}
}

func mustNotPut(t *testing.T, col api.Column, z api.Zone, want api.Errno) {
	t.Helper()
	if b, e := zone.Put(col, z); e != want || len(b) != 0 {
		t.Fatalf("Put(%s, %s) = %s, %d; want %d", brief(col), brief(z), brief(b), e, want)
	}
}

// takeAsPlain holds Take of bytes against the plain reading: the answer, and how the reader stands afterwards.
func takeAsPlain(t *testing.T, col api.Column, b []byte) api.Errno {
	t.Helper()
	r := cursor.Open(b)
	z, e := zone.Take(col, r)
	want, f, left, fault := plainTake(col, b)
	if e != f || !same(z, want) || r.Left() != left || r.Fault() != fault {
		t.Fatalf("Take(%s, %s) = %s, %d, left %d, fault %d; want %s, %d, left %d, fault %d", brief(col), brief(b), brief(z), e, r.Left(), r.Fault(), brief(want), f, left, fault)
	}
	if rest := r.Bytes(left); fault == api.OK && !bytes.Equal(rest, b[len(b)-left:]) {
		t.Fatalf("Take(%s, %s): then %s is read", brief(col), brief(b), brief(rest))
	}
	return e
}

// mustTake asks for one answer, and for where the reader stands afterwards.
func mustTake(t *testing.T, col api.Column, b []byte, want api.Zone, e api.Errno, left int) {
	t.Helper()
	r := cursor.Open(b)
	if z, f := zone.Take(col, r); f != e || !same(z, want) || r.Left() != left {
		t.Fatalf("Take(%s, %s) = %s, %d, left %d; want %s, %d, left %d", brief(col), brief(b), brief(z), f, r.Left(), brief(want), e, left)
	}
}

func TestP14_4WrittenOut(t *testing.T) {
	nines := bytes.Repeat([]byte{255}, 9)
	for _, x := range []struct {
		col  api.Column
		z    api.Zone
		want []byte
	}{
		{intCol, api.Zone{}, []byte{0, 0, 0}},
		{textCol, api.Zone{}, []byte{0, 0, 0}},
		{intNull, api.Zone{Nulls: 127}, []byte{127, 0, 0}},
		{intNull, api.Zone{Nulls: 128}, []byte{128, 1, 0, 0}},
		{textNull, api.Zone{Nulls: 16777216}, []byte{128, 128, 128, 8, 0, 0}},
		{intCol, api.Zone{Min: num(0), Max: num(0)}, []byte{0, 1, 0, 0, 0}},
		{intCol, api.Zone{Min: num(-64), Max: num(64)}, []byte{0, 1, 127, 128, 1, 0}},
		{intCol, api.Zone{Min: num(math.MinInt64), Max: num(math.MaxInt64)}, slices.Concat([]byte{0, 1}, nines, []byte{1, 254}, nines[1:], []byte{1, 0})},
		{textCol, api.Zone{Min: word(""), Max: word("")}, []byte{0, 1, 0, 0, 0}},
		{textNull, api.Zone{Nulls: 9, Min: word(""), Max: word("\xff\x00")}, []byte{9, 1, 0, 2, 255, 0, 0}},
		{textCol, api.Zone{Min: word("a"), Max: word(longest('b'))}, slices.Concat([]byte{0, 1, 1, 'a', 255, 255, 3}, []byte(longest('b')), []byte{0})},
		{intNull, api.Zone{Nulls: 2, Bloom: []byte{1, 2, 3, 4, 5, 6, 7, 8}}, []byte{2, 0, 8, 1, 2, 3, 4, 5, 6, 7, 8}},
		{textCol, api.Zone{Min: word("a"), Max: word("b"), Bloom: make([]byte, 8)}, []byte{0, 1, 1, 'a', 1, 'b', 8, 0, 0, 0, 0, 0, 0, 0, 0}},
		{intCol, api.Zone{Bloom: bytes.Repeat([]byte{7}, 65536)}, slices.Concat([]byte{0, 0, 128, 128, 4}, bytes.Repeat([]byte{7}, 65536))},
	} {
		mustPut(t, x.col, x.z, x.want)
		mustTake(t, x.col, x.want, x.z, api.OK, 0)
	}
}

// TestP14_4EveryEdge: a record is put just if it may be for the column; how many rows there would be says nothing.
func TestP14_4EveryEdge(t *testing.T) {
	put := 0
	for _, col := range goodColumns() {
		for _, z := range append(edgeRecords(api.Int), edgeRecords(api.Text)...) {
			if !plainMayBe(col, z) {
				mustNotPut(t, col, z, api.ErrZone)
				continue
			}
			mustPut(t, col, z, plainBytes(z))
			put++
		}
	}
	if put < 200 {
		t.Errorf("%d records alone that are put", put)
	}
}

func TestP14_4WrongColumn(t *testing.T) {
	for _, col := range badColumns() {
		mustNotPut(t, col, api.Zone{}, api.ErrSchema)
		mustNotPut(t, col, api.Zone{Nulls: 1}, api.ErrSchema)
		mustNotPut(t, col, api.Zone{Nulls: -1}, api.ErrSchema)
		mustNotPut(t, col, api.Zone{Min: num(2), Max: num(1)}, api.ErrSchema)
		v := api.Value{Kind: col.Type}
		mustNotPut(t, col, api.Zone{Min: v, Max: v}, api.ErrSchema)
	}
}

// TestP14_5EveryShortList: all lists of edge bytes up to some length, as the plain reading has them.
func TestP14_5EveryShortList(t *testing.T) {
	edges := []byte{0, 1, 2, 3, 8, 127, 128, 255}
	met := map[api.Errno]int{}
	for n := range 6 {
		b := make([]byte, n)
		var fill func(i int)
		fill = func(i int) {
			if i < n {
				for _, c := range edges {
					b[i] = c
					fill(i + 1)
				}
				return
			}
			for _, col := range goodColumns() {
				met[takeAsPlain(t, col, b)]++
			}
		}
		fill(0)
	}
	for _, e := range []api.Errno{api.OK, api.ErrZone, api.ErrShort, api.ErrForm} {
		if met[e] < 100 {
			t.Errorf("answer %d: met %d times", e, met[e])
		}
	}
}

// TestP14_5Spoilt: the bytes of records with some of them changed, cut out or put in, and more behind them.
func TestP14_5Spoilt(t *testing.T) {
	r := byChance(51)
	taken := 0
	for i, col := range goodColumns() {
		for _, l := range manyLists(col, 500+uint64(i)) {
			if slices.ContainsFunc(l, func(v api.Value) bool { return len(v.Text) > 99 }) {
				continue
			}
			for range 30 {
				z, _ := plainOf(col, l, []int{0, 8, 16}[r.IntN(3)])
				b := append(plainBytes(z), someBytes(r, r.IntN(3))...)
				at := r.IntN(len(b))
				switch r.IntN(4) {
				case 0:
					b[at] = byte(r.IntN(256) >> r.IntN(8))
				case 1:
					b = slices.Delete(b, at, at+1)
				case 2:
					b = slices.Insert(b, at, byte(r.IntN(256)>>r.IntN(8)))
				}
				if takeAsPlain(t, col, b) == api.OK {
					taken++
				}
			}
		}
	}
	if taken < 1000 {
		t.Errorf("%d records alone", taken)
	}
}

// TestP14_5WrongColumn: told ahead of all else, also of no reader, and nothing is read.
func TestP14_5WrongColumn(t *testing.T) {
	for _, col := range badColumns() {
		mustTake(t, col, []byte{0, 0, 0}, api.Zone{}, api.ErrSchema, 3)
		mustTake(t, col, []byte{1, 2, 7}, api.Zone{}, api.ErrSchema, 3)
		mustTake(t, col, nil, api.Zone{}, api.ErrSchema, 0)
		if z, e := zone.Take(col, nil); e != api.ErrSchema || !same(z, api.Zone{}) {
			t.Errorf("of no reader: %d", e)
		}
		r := cursor.Open([]byte{0, 0, 0})
		r.Bytes(-1)
		if z, e := zone.Take(col, r); e != api.ErrSchema || !same(z, api.Zone{}) || r.Fault() != api.ErrArg {
			t.Errorf("of a reader with a fault: %d", e)
		}
	}
}

func TestP14_5NoReader(t *testing.T) {
	for _, col := range goodColumns() {
		if z, e := zone.Take(col, nil); e != api.ErrNil || !same(z, api.Zone{}) {
			t.Errorf("of no reader: %s, %d", brief(z), e)
		}
		r := &cursor.Reader{}
		if z, e := zone.Take(col, r); e != api.ErrShort || !same(z, api.Zone{}) || r.Fault() != api.ErrShort {
			t.Errorf("of a reader of no bytes: %s, %d", brief(z), e)
		}
	}
}

// TestP14_5Faults: a reader that has a fault tells it, and stays where it is, whatever stands there.
func TestP14_5Faults(t *testing.T) {
	for _, col := range goodColumns() {
		for _, b := range [][]byte{{128, 0, 0}, {128, 0, 0, 0, 0}, {128, 0, 2, 7}, {128, 0}} {
			for name, x := range map[string]struct {
				spoil func(r *cursor.Reader)
				fault api.Errno
			}{
				"ErrArg":   {func(r *cursor.Reader) { r.Bytes(-1) }, api.ErrArg},
				"ErrShort": {func(r *cursor.Reader) { r.Bytes(99) }, api.ErrShort},
				"ErrForm":  {func(r *cursor.Reader) { r.Uvarint() }, api.ErrForm},
			} {
				r := cursor.Open(b)
				x.spoil(r)
				for range 2 {
					if z, e := zone.Take(col, r); e != x.fault || !same(z, api.Zone{}) || r.Fault() != x.fault || r.Left() != len(b) {
						t.Fatalf("%s: Take(%v) = %s, %d, left %d", name, b, brief(z), e, r.Left())
					}
				}
			}
		}
	}
}

// TestP14_5CutShort: bytes that end too early at every place, and the reader behind the last part that was whole.
func TestP14_5CutShort(t *testing.T) {
	for i, col := range goodColumns() {
		for _, l := range manyLists(col, 600+uint64(i)) {
			if slices.ContainsFunc(l, func(v api.Value) bool { return len(v.Text) > 99 }) {
				continue
			}
			for _, size := range []int{0, 8} {
				z, _ := plainOf(col, l, size)
				b := plainBytes(z)
				for n := range b {
					if e := takeAsPlain(t, col, b[:n]); e != api.ErrShort {
						t.Fatalf("the first %d of %v: %d", n, b, e)
					}
				}
			}
		}
	}
	z := api.Zone{Nulls: 300, Min: word("abc"), Max: word(longest('z')), Bloom: make([]byte, 65536)}
	b := plainBytes(z)
	for _, n := range []int{0, 1, 2, 3, 4, 6, 7, 8, 9, 10, 11, 1000, 65544, 65545, 65546, 65547, 65548, 65549, 100000, len(b) - 1} {
		if e := takeAsPlain(t, textNull, b[:n]); e != api.ErrShort {
			t.Fatalf("the first %d: %d", n, e)
		}
	}
	mustTake(t, textNull, b, z, api.OK, 0)
}

// TestP14_5WhereItStands: the parts that were whole are behind the reader, the one that was not is ahead of it.
func TestP14_5WhereItStands(t *testing.T) {
	for _, x := range []struct {
		col  api.Column
		b    []byte
		e    api.Errno
		left int
	}{
		{intNull, []byte{128}, api.ErrShort, 1},
		{intNull, []byte{128, 0, 0, 0}, api.ErrForm, 4},
		{intNull, []byte{5}, api.ErrShort, 0},
		{intNull, []byte{5, 1}, api.ErrShort, 0},
		{intNull, []byte{5, 1, 128}, api.ErrShort, 1},
		{intNull, []byte{5, 1, 128, 0, 7, 0}, api.ErrForm, 4},
		{intNull, []byte{5, 1, 6, 128, 0, 7}, api.ErrForm, 3},
		{intNull, []byte{5, 1, 6, 6}, api.ErrShort, 0},
		{intNull, []byte{5, 1, 6, 6, 8, 1, 2}, api.ErrShort, 3},
		{intNull, []byte{5, 1, 6, 6, 128, 0}, api.ErrForm, 2},
		{intNull, []byte{5, 0, 8, 1, 2}, api.ErrShort, 3},
		{intNull, []byte{5, 0, 129, 128, 4}, api.ErrForm, 3},
		{textCol, []byte{0, 1, 3, 'a', 'b'}, api.ErrShort, 3},
		{textCol, []byte{0, 1, 2, 'a', 'b', 1}, api.ErrShort, 1},
		{textCol, []byte{0, 1, 128, 128, 4, 0}, api.ErrForm, 4},
		{textCol, []byte{0, 1, 1, 'a', 128, 128, 4, 0}, api.ErrForm, 4},
		{textCol, []byte{0, 1, 255, 255, 3, 0}, api.ErrShort, 4},
		{textCol, []byte{0, 2, 9, 9}, api.ErrZone, 2},
		{textCol, []byte{7, 255}, api.ErrZone, 0},
		{textCol, []byte{0, 1, 1, 'b', 1, 'a', 0, 9}, api.ErrZone, 1},
		{textCol, []byte{1, 0, 0, 9, 9}, api.ErrZone, 2},
		{intCol, []byte{0, 0, 3, 1, 2, 3, 9}, api.ErrZone, 1},
		{intCol, []byte{0, 0, 0, 9, 9, 9}, api.OK, 3},
	} {
		mustTake(t, x.col, x.b, api.Zone{}, x.e, x.left)
		takeAsPlain(t, x.col, x.b)
	}
}

// TestP14_5Mark: of the byte behind Nulls, every one above 1.
func TestP14_5Mark(t *testing.T) {
	for c := range 256 {
		for _, col := range goodColumns() {
			b := []byte{0, byte(c), 0, 0, 0}
			switch c {
			case 0:
				mustTake(t, col, b, api.Zone{}, api.OK, 2)
			case 1:
				first := edgeValues(col.Type)[0]
				if col.Type == api.Int {
					first = num(0)
				}
				mustTake(t, col, b, api.Zone{Min: first, Max: first}, api.OK, 0)
			default:
				r := cursor.Open(b)
				if _, e := zone.Take(col, r); e != api.ErrZone || r.Left() != 3 || r.Fault() != api.OK {
					t.Fatalf("the byte %d: %d, left %d, fault %d", c, e, r.Left(), r.Fault())
				}
			}
		}
	}
}

// TestP14_5Nulls: a number that no int may hold, or no column may have, is told behind all that is read.
func TestP14_5Nulls(t *testing.T) {
	for _, n := range []uint64{0, 1, 2, 16777215, 16777216, 16777217, 1<<31 - 1, 1 << 31, 1<<32 - 1, 1 << 32, 1<<32 + 1, 1<<63 - 1, 1 << 63, 1<<63 + 1, 1<<64 - 1} {
		for _, col := range goodColumns() {
			b := append(short(n), 0, 0, 77)
			if n == 0 || col.Null && n <= 16777216 {
				mustTake(t, col, b, api.Zone{Nulls: int(n)}, api.OK, 1)
			} else {
				mustTake(t, col, b, api.Zone{}, api.ErrZone, 1)
				mustTake(t, col, append(short(n), 0), api.Zone{}, api.ErrShort, 0)
				mustTake(t, col, append(short(n), 0, 128, 0), api.Zone{}, api.ErrForm, 2)
				mustTake(t, col, append(short(n), 2, 128, 0), api.Zone{}, api.ErrZone, 2)
			}
		}
	}
}

// TestP14_5TooLong: blocks of a byte too many, and of as many as there may be.
func TestP14_5TooLong(t *testing.T) {
	most, more := longest('m'), longest('m')+"m"
	head := []byte{0, 1}
	mustTake(t, textCol, slices.Concat(head, block(most), block(most), []byte{0}), api.Zone{Min: word(most), Max: word(most)}, api.OK, 0)
	mustTake(t, textCol, slices.Concat(head, block(more), block(most), []byte{0}), api.Zone{}, api.ErrForm, 65539+65538+1)
	mustTake(t, textCol, slices.Concat(head, block(most), block(more), []byte{0}), api.Zone{}, api.ErrForm, 65540)
	mustTake(t, textCol, slices.Concat(head, block(""), block(more), []byte{0}), api.Zone{}, api.ErrForm, 65540)
	for _, col := range goodColumns() {
		for _, n := range []int{8, 65536} {
			filter := strings.Repeat("\x05", n)
			mustTake(t, col, slices.Concat([]byte{0, 0}, block(filter), []byte{9}), api.Zone{Bloom: []byte(filter)}, api.OK, 1)
		}
		for _, n := range []int{1, 7, 9, 12, 24, 65535} {
			mustTake(t, col, slices.Concat([]byte{0, 0}, block(strings.Repeat("\x05", n)), []byte{9}), api.Zone{}, api.ErrZone, 1)
		}
		for _, n := range []int{65537, 131072} {
			b := slices.Concat([]byte{0, 0}, block(strings.Repeat("\x05", n)), []byte{9})
			mustTake(t, col, b, api.Zone{}, api.ErrForm, len(b)-2)
		}
	}
}

// TestP14_5OneBehindTheOther: records of all columns in one reader, with other things between them.
func TestP14_5OneBehindTheOther(t *testing.T) {
	var all []byte
	var records []api.Zone
	var cols []api.Column
	for i, col := range goodColumns() {
		for _, l := range manyLists(col, 700+uint64(i)) {
			z, _ := plainOf(col, l, []int{0, 8}[len(records)%2])
			records, cols = append(records, z), append(cols, col)
			all = slices.Concat(all, plainBytes(z), []byte{2, 255})
		}
	}
	r := cursor.Open(all)
	for i, want := range records {
		if z, e := zone.Take(cols[i], r); e != api.OK || !same(z, want) || cursor.Take[uint16](r) != 65282 {
			t.Fatalf("record %d: %s, %d; want %s", i, brief(z), e, brief(want))
		}
	}
	if r.End() != api.OK {
		t.Errorf("behind all of them: %d", r.End())
	}
}

// TestP14_5ReadOn: behind a record that may not be the reader has no fault, and the next one is read.
func TestP14_5ReadOn(t *testing.T) {
	r := cursor.Open([]byte{0, 1, 18, 1, 0, 0, 9, 1, 1, 1, 18, 0})
	if _, e := zone.Take(intNull, r); e != api.ErrZone || r.Fault() != api.OK || r.Left() != 7 {
		t.Fatalf("Min behind Max: %d", e)
	}
	if _, e := zone.Take(intNull, r); e != api.ErrZone || r.Fault() != api.OK || r.Left() != 5 {
		t.Fatalf("a byte of 9: %d", e)
	}
	if z, e := zone.Take(intNull, r); e != api.OK || !same(z, api.Zone{Nulls: 1, Min: num(-1), Max: num(9)}) || r.End() != api.OK {
		t.Fatalf("the third one: %s, %d", brief(z), e)
	}
}

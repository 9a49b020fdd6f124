package cursor_test

import (
	"bytes"
	"math"
	"slices"
	"testing"

	"colonnade/api"
	"colonnade/cursor"
)

// same holds one reading of a new reader of b against the plain one: the answer, and what Left, Fault and End say behind it.
func same(t *testing.T, b []byte, q asked) {
	t.Helper()
	r, p := cursor.Open(b), &plainReader{b: b}
	got, want := read(r, q), p.read(q)
	if got != want || r.Left() != len(b)-p.at || r.Fault() != p.fault || r.End() != p.end() {
		t.Fatalf("%v of % X: %s, Left %d, Fault %d, End %d; want %s, %d, %d, %d", q, b, got, r.Left(), r.Fault(), r.End(), want, len(b)-p.at, p.fault, p.end())
	}
}

// refused is a reading that must end with e, and leave the place where it was.
func refused(t *testing.T, b []byte, q asked, e api.Errno) {
	t.Helper()
	same(t, b, q)
	r := cursor.Open(b)
	if got := read(r, q); got != zero(q) || r.Fault() != e || r.Left() != len(b) {
		t.Errorf("%v of % X: %s, Fault %d, Left %d; want Fault %d, Left %d", q, b, got, r.Fault(), r.Left(), e, len(b))
	}
}

func TestP7_5Open(t *testing.T) {
	for _, b := range [][]byte{nil, {}, {1}, {0, 0}, make([]byte, 1000), []byte("abc")[:2]} {
		r := cursor.Open(b)
		if r == nil {
			t.Fatalf("Open of %d bytes answers none", len(b))
		}
		if r.Left() != len(b) || r.Fault() != api.OK {
			t.Errorf("a reader of %d bytes: Left %d, Fault %d", len(b), r.Left(), r.Fault())
		}
		if got := r.Bytes(len(b)); !slices.Equal(got, b) || r.End() != api.OK {
			t.Errorf("a reader of % X: % X, End %d", b, got, r.End())
		}
	}
}

func TestP7_5BytesWrittenOver(t *testing.T) {
	b := []byte{1, 2, 3, 1, 97, 2, 5, 6}
	was := slices.Clone(b)
	r := cursor.Open(b[:6])
	clear(b)
	if got := r.Bytes(3); !slices.Equal(got, was[:3]) {
		t.Errorf("Bytes(3) = % X, want % X", got, was[:3])
	}
	for i := range b {
		b[i] = 255
	}
	if got := r.Block(9); string(got) != "a" || r.Left() != 1 || cursor.Take[uint8](r) != 2 {
		t.Errorf("Block = % X, Left %d, Fault %d", got, r.Left(), r.Fault())
	}
}

func TestP7_5ReadersOfTheSameBytes(t *testing.T) {
	b := []byte{1, 2, 3}
	r, o := cursor.Open(b), cursor.Open(b)
	r.Bytes(2)
	r.Bytes(2)
	if o.Left() != 3 || o.Fault() != api.OK || cursor.Take[uint8](o) != 1 {
		t.Errorf("the other reader: Left %d, Fault %d", o.Left(), o.Fault())
	}
}

func TestP7_5ZeroValue(t *testing.T) {
	for _, q := range everyReading() {
		var r cursor.Reader
		p := &plainReader{}
		got, want := read(&r, q), p.read(q)
		if got != want || r.Left() != 0 || r.Fault() != p.fault || r.End() != p.fault {
			t.Errorf("%v of a zero value: %s, Left %d, Fault %d, End %d; want %s, Fault %d", q, got, r.Left(), r.Fault(), r.End(), want, p.fault)
		}
	}
	r := new(cursor.Reader)
	if r.Fault() != api.OK || r.End() != api.OK || r.Left() != 0 {
		t.Errorf("a zero value: Fault %d, End %d", r.Fault(), r.End())
	}
}

func TestP7_6Take(t *testing.T) {
	r := byChance(3)
	for call, width := range widths {
		for n := range 2*width + 3 {
			for _, b := range [][]byte{make([]byte, n), bytes.Repeat([]byte{255}, n), someBytes(r, n)} {
				same(t, b, asked{call: call})
				if n < width {
					refused(t, b, asked{call: call}, api.ErrShort)
				}
			}
		}
	}
}

func TestP7_6Kinds(t *testing.T) {
	b := []byte{1, 2, 3, 4, 5, 6, 7, 0x88, 9}
	if v := cursor.Take[uint8](cursor.Open(b)); v != 1 {
		t.Errorf("uint8: %d", v)
	}
	if v := cursor.Take[pair](cursor.Open(b)); v != 0x0201 {
		t.Errorf("a kind over uint16: %X", v)
	}
	if v := cursor.Take[quad](cursor.Open(b)); v != 0x04030201 {
		t.Errorf("a kind over uint32: %X", v)
	}
	if v := cursor.Take[uint64](cursor.Open(b)); v != 0x8807060504030201 {
		t.Errorf("uint64: %X", v)
	}
}

func TestP7_7OneAndTwoBytes(t *testing.T) {
	for i := range 256 {
		same(t, []byte{byte(i)}, asked{call: "Uvarint"})
		same(t, []byte{byte(i)}, asked{call: "Varint"})
		for j := range 256 {
			same(t, []byte{byte(i), byte(j)}, asked{call: "Uvarint"})
			same(t, []byte{byte(i), byte(j)}, asked{call: "Varint"})
		}
	}
}

func TestP7_7EveryLength(t *testing.T) {
	for n := range 14 {
		for _, lead := range []byte{128, 129, 254, 255} {
			head := bytes.Repeat([]byte{lead}, n)
			for last := range 256 {
				b := append(slices.Clone(head), byte(last))
				for _, call := range []string{"Uvarint", "Varint"} {
					same(t, b, asked{call: call})
					same(t, append(slices.Clone(b), 7, 200), asked{call: call})
				}
			}
		}
	}
}

func TestP7_7NoneLeft(t *testing.T) {
	for n := range 10 {
		for _, call := range []string{"Uvarint", "Varint"} {
			refused(t, bytes.Repeat([]byte{128}, n), asked{call: call}, api.ErrShort)
			refused(t, bytes.Repeat([]byte{255}, n), asked{call: call}, api.ErrShort)
		}
	}
}

func TestP7_7NotTheOneForm(t *testing.T) {
	for n := 1; n < 10; n++ {
		for _, call := range []string{"Uvarint", "Varint"} {
			refused(t, append(bytes.Repeat([]byte{129}, n), 0), asked{call: call}, api.ErrForm)
			refused(t, append(bytes.Repeat([]byte{129}, n), 0, 1), asked{call: call}, api.ErrForm)
		}
	}
	if r := cursor.Open([]byte{0, 5}); r.Uvarint() != 0 || r.Fault() != api.OK || r.Left() != 1 {
		t.Errorf("a 0 alone: Fault %d, Left %d", r.Fault(), r.Left())
	}
}

func TestP7_7TenthByte(t *testing.T) {
	head := bytes.Repeat([]byte{255}, 9)
	for c := range 256 {
		b := append(slices.Clone(head), byte(c))
		switch {
		case c == 1:
			if r := cursor.Open(b); r.Uvarint() != math.MaxUint64 || r.End() != api.OK {
				t.Errorf("a tenth byte of 1: End %d", r.End())
			}
			if r := cursor.Open(b); r.Varint() != math.MinInt64 || r.End() != api.OK {
				t.Errorf("a tenth byte of 1, Varint: End %d", r.End())
			}
		default: // also ahead of further bytes, which are not looked at
			for _, call := range []string{"Uvarint", "Varint"} {
				refused(t, b, asked{call: call}, api.ErrForm)
				refused(t, append(slices.Clone(b), 1), asked{call: call}, api.ErrForm)
			}
		}
	}
}

func TestP7_7Numbers(t *testing.T) {
	for _, v := range numbers() {
		if r := cursor.Open(plainUvarint(v)); r.Uvarint() != v || r.End() != api.OK {
			t.Errorf("Uvarint of the short form of %d: End %d", v, r.End())
		}
	}
	for _, v := range signed() {
		if r := cursor.Open(plainShort(plainFolded(v))); r.Varint() != v || r.End() != api.OK {
			t.Errorf("Varint of the short form of %d folded: End %d", v, r.End())
		}
	}
}

func TestP7_8Bytes(t *testing.T) {
	for _, b := range [][]byte{nil, {1}, {1, 2}, {0, 0, 0}, make([]byte, 300)} {
		for _, n := range []int{0, 1, 2, 3, 4, 299, 300, 301, math.MaxInt32, math.MaxInt} {
			same(t, b, asked{"Bytes", n, 0})
			if n > len(b) {
				refused(t, b, asked{"Bytes", n, 0}, api.ErrShort)
			}
		}
		for _, n := range []int{-1, -2, math.MinInt} {
			refused(t, b, asked{"Bytes", n, 0}, api.ErrArg)
		}
	}
}

func TestP7_8Block(t *testing.T) {
	for _, x := range []struct {
		b    []byte
		most int
		e    api.Errno
	}{
		{nil, -1, api.ErrArg}, {[]byte{128, 0}, -1, api.ErrArg}, {[]byte{0}, math.MinInt, api.ErrArg},
		{nil, 0, api.ErrShort}, {[]byte{128}, 0, api.ErrShort}, {[]byte{128, 0}, 9, api.ErrForm}, {[]byte{0}, 0, api.OK}, {[]byte{0, 1}, 0, api.OK},
		{[]byte{1}, 0, api.ErrForm}, {[]byte{1}, 1, api.ErrShort}, {[]byte{1, 9}, 0, api.ErrForm}, {[]byte{1, 9}, 1, api.OK}, {[]byte{1, 9}, math.MaxInt, api.OK},
		{[]byte{3, 1, 2}, 2, api.ErrForm}, {[]byte{3, 1, 2}, 3, api.ErrShort}, {[]byte{3, 1, 2, 3, 4}, 3, api.OK},
		{plainUvarint(math.MaxInt64), math.MaxInt, api.ErrShort}, {plainUvarint(math.MaxInt64 + 1), math.MaxInt, api.ErrForm}, {plainUvarint(math.MaxUint64), math.MaxInt, api.ErrForm},
		{plainUvarint(math.MaxUint64), 0, api.ErrForm}, {plainUvarint(1 << 32), 9, api.ErrForm}, {append(plainUvarint(1<<32+1), 5), 1, api.ErrForm},
		{plainBlock(make([]byte, 128)), 127, api.ErrForm}, {plainBlock(make([]byte, 128)), 128, api.OK}, {plainBlock(make([]byte, 128))[:129], 128, api.ErrShort},
	} {
		same(t, x.b, asked{"Block", x.most, 0})
		if x.e != api.OK {
			refused(t, x.b, asked{"Block", x.most, 0}, x.e)
		} else if r := cursor.Open(x.b); r.Block(x.most) == nil && r.Fault() != api.OK {
			t.Errorf("Block(%d) of % X: Fault %d", x.most, x.b, r.Fault())
		}
	}
}

func TestP7_8Texts(t *testing.T) {
	for _, x := range []struct {
		b          []byte
		most, each int
		e          api.Errno
	}{
		{nil, -1, 0, api.ErrArg}, {nil, 0, -1, api.ErrArg}, {[]byte{0}, 0, math.MinInt, api.ErrArg}, {[]byte{128, 0}, math.MinInt, -1, api.ErrArg}, {[]byte{9}, 0, -1, api.ErrArg},
		{nil, 5, 5, api.ErrShort}, {[]byte{129}, 0, 0, api.ErrShort}, {[]byte{129, 0}, 500, 0, api.ErrForm},
		{[]byte{0}, 0, 0, api.OK}, {[]byte{0, 3}, 0, 0, api.OK}, {[]byte{1, 0}, 0, 0, api.ErrForm}, {[]byte{1, 0}, 1, 0, api.OK},
		{[]byte{1, 1, 97}, 1, 0, api.ErrForm}, {[]byte{1, 1, 97}, 1, 1, api.OK}, {[]byte{1, 1}, 1, 1, api.ErrShort}, {[]byte{1, 1}, 1, 0, api.ErrForm}, {[]byte{1}, 1, 0, api.ErrShort},
		{[]byte{2, 1, 97, 2}, 2, 1, api.ErrForm}, {[]byte{2, 1, 97, 2}, 2, 2, api.ErrShort}, {[]byte{2, 2, 97}, 2, 2, api.ErrShort}, {[]byte{2, 1, 97, 128, 0}, 2, 2, api.ErrForm}, {[]byte{2, 1, 97, 128}, 2, 2, api.ErrShort},
		{[]byte{3, 0, 0, 0}, 3, 0, api.OK}, {[]byte{3, 0, 0}, 3, 0, api.ErrShort}, {[]byte{3, 0, 0, 0}, 2, 0, api.ErrForm},
		{plainUvarint(math.MaxInt64), math.MaxInt, 0, api.ErrShort}, {append(plainUvarint(math.MaxInt64), 0, 0, 1, 0), math.MaxInt, 0, api.ErrForm}, {append(plainUvarint(math.MaxInt64), make([]byte, 999)...), math.MaxInt, math.MaxInt, api.ErrShort},
		{plainUvarint(math.MaxUint64), math.MaxInt, 0, api.ErrForm}, {plainUvarint(1 << 63), math.MaxInt, 0, api.ErrForm}, {append([]byte{1}, plainUvarint(1<<63)...), 1, math.MaxInt, api.ErrForm}, {append([]byte{1}, plainUvarint(1<<62)...), 1, math.MaxInt, api.ErrShort},
	} {
		same(t, x.b, asked{"Texts", x.most, x.each})
		if x.e != api.OK {
			refused(t, x.b, asked{"Texts", x.most, x.each}, x.e)
		} else if r := cursor.Open(x.b); r.Texts(x.most, x.each) == nil && r.Fault() != api.OK {
			t.Errorf("Texts(%d, %d) of % X: Fault %d", x.most, x.each, x.b, r.Fault())
		}
	}
}

func TestP7_9ChangeNothing(t *testing.T) {
	for _, b := range [][]byte{nil, {1}, {1, 2, 3}} {
		for _, q := range []asked{{"Bytes", 0, 0}, {"Bytes", 1, 0}, {"Bytes", -1, 0}, {"Bytes", 2, 0}, {call: "Uvarint"}} {
			r, p := cursor.Open(b), &plainReader{b: b}
			read(r, q)
			p.read(q)
			for range 3 {
				if r.Left() != len(b)-p.at || r.Fault() != p.fault || r.End() != p.end() {
					t.Errorf("behind %v of % X: Left %d, Fault %d, End %d; want %d, %d, %d", q, b, r.Left(), r.Fault(), r.End(), len(b)-p.at, p.fault, p.end())
				}
			}
			if got, want := read(r, asked{call: "uint8"}), p.read(asked{call: "uint8"}); got != want {
				t.Errorf("behind %v of % X, and Left, Fault and End: %s, want %s", q, b, got, want)
			}
		}
	}
}

func TestP7_10NotThere(t *testing.T) {
	var r *cursor.Reader
	for _, q := range everyReading() {
		if got := read(r, q); got != zero(q) {
			t.Errorf("%v of a reader that is not there: %s", q, got)
		}
	}
	if r.Left() != 0 || r.Fault() != api.ErrNil || r.End() != api.ErrNil {
		t.Errorf("a reader that is not there: Left %d, Fault %d, End %d", r.Left(), r.Fault(), r.End())
	}
}

// TestWordsBehindAFault: nothing changes behind the first fault, whatever is asked.
func TestWordsBehindAFault(t *testing.T) {
	b := []byte{0, 1, 97, 1, 1, 98, 5, 200, 200}
	for _, first := range []struct {
		q asked
		e api.Errno
	}{{asked{call: "uint64"}, api.ErrShort}, {asked{"Block", 0, 0}, api.ErrForm}, {asked{"Bytes", -1, 0}, api.ErrArg}, {asked{"Texts", 1, -1}, api.ErrArg}, {asked{"Texts", 1, 0}, api.ErrForm}} {
		for _, q := range everyReading() {
			r := cursor.Open(b)
			r.Bytes(2)
			if got := read(r, first.q); got != zero(first.q) || r.Fault() != first.e || r.Left() != 7 {
				t.Fatalf("%v: %s, Fault %d, Left %d", first.q, got, r.Fault(), r.Left())
			}
			for range 2 {
				if got := read(r, q); got != zero(q) || r.Fault() != first.e || r.Left() != 7 || r.End() != first.e {
					t.Fatalf("%v behind %v: %s, Fault %d, Left %d, End %d", q, first.q, got, r.Fault(), r.Left(), r.End())
				}
			}
		}
	}
}

// TestWordsPlace: what was read ahead of a refused reading stays read, and nothing of what was refused.
func TestWordsPlace(t *testing.T) {
	for _, q := range []asked{{call: "uint32"}, {call: "Uvarint"}, {call: "Varint"}, {"Bytes", 4, 0}, {"Block", 200, 0}, {"Texts", 200, 200}, {"Texts", 200, 0}} {
		b := []byte{7, 7, 7, 130, 128, 129}
		r := cursor.Open(b)
		if got := r.Bytes(3); !slices.Equal(got, b[:3]) {
			t.Fatalf("Bytes(3) = % X", got)
		}
		if got := read(r, q); got != zero(q) || r.Fault() != api.ErrShort || r.Left() != 3 {
			t.Errorf("%v: %s, Fault %d, Left %d", q, got, r.Fault(), r.Left())
		}
	}
	r := cursor.Open([]byte{7, 3, 1, 97, 1, 98, 2, 99})
	r.Bytes(1)
	if got := r.Texts(9, 9); len(got) != 0 || r.Fault() != api.ErrShort || r.Left() != 7 {
		t.Errorf("Texts behind two texts that were there: %q, Fault %d, Left %d", got, r.Fault(), r.Left())
	}
}

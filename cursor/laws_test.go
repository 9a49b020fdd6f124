package cursor_test

import (
	"fmt"
	"math/rand/v2"
	"slices"
	"testing"

	"colonnade/api"
	"colonnade/cursor"
)

// put is one thing that is put, and how it is read again.
type put struct {
	bytes  func(b []byte) []byte
	q      asked
	answer string
}

// somePut is a Put by chance, with the least room that its reading needs, or more.
func somePut(r *rand.Rand) put {
	v := r.Uint64() >> r.IntN(64)
	more := r.IntN(2) * r.IntN(9)
	switch r.IntN(9) {
	case 0:
		return put{func(b []byte) []byte { return cursor.Put(b, uint8(v)) }, asked{call: "uint8"}, fmt.Sprint(uint8(v))}
	case 1:
		return put{func(b []byte) []byte { return cursor.Put(b, pair(v)) }, asked{call: "pair"}, fmt.Sprint(uint16(v))}
	case 2:
		return put{func(b []byte) []byte { return cursor.Put(b, uint32(v)) }, asked{call: "quad"}, fmt.Sprint(uint32(v))}
	case 3:
		return put{func(b []byte) []byte { return cursor.Put(b, eight(v)) }, asked{call: "uint64"}, fmt.Sprint(v)}
	case 4:
		return put{func(b []byte) []byte { return cursor.PutUvarint(b, v) }, asked{call: "Uvarint"}, fmt.Sprint(v)}
	case 5, 6:
		return put{func(b []byte) []byte { return cursor.PutVarint(b, int64(v)) }, asked{call: "Varint"}, fmt.Sprint(int64(v))}
	case 7:
		p := someBytes(r, r.IntN(4)*r.IntN(60))
		return put{func(b []byte) []byte { return cursor.PutBlock(b, p) }, asked{"Block", len(p) + more, 0}, fmt.Sprintf("%X", p)}
	}
	l, each := make([]string, r.IntN(5)), 0
	for i := range l {
		l[i] = string(someBytes(r, r.IntN(3)*r.IntN(80)))
		each = max(each, len(l[i]))
	}
	return put{func(b []byte) []byte { return cursor.PutTexts(b, l...) }, asked{"Texts", len(l) + more, each + more}, fmt.Sprintf("%q", l)}
}

func TestP7_11AsItWasPut(t *testing.T) {
	r := byChance(11)
	for range 300 {
		var b []byte
		l := make([]put, r.IntN(9))
		for i := range l {
			l[i] = somePut(r)
			b = l[i].bytes(b)
		}
		o := cursor.Open(b)
		for _, x := range l {
			if got := read(o, x.q); got != x.answer || o.Fault() != api.OK {
				t.Fatalf("%v = %s, Fault %d; want %s", x.q, got, o.Fault(), x.answer)
			}
		}
		if o.End() != api.OK || o.Left() != 0 {
			t.Fatalf("behind all that was put: End %d, Left %d", o.End(), o.Left())
		}
		for n := range b {
			shorter(t, b[:n], l)
		}
	}
}

// shorter reads a beginning of what was put: as it was put, as far as it goes, and then ErrShort.
func shorter(t *testing.T, b []byte, l []put) {
	t.Helper()
	o := cursor.Open(b)
	for _, x := range l {
		got := read(o, x.q)
		if o.Fault() == api.OK && got != x.answer || o.Fault() != api.OK && got != zero(x.q) {
			t.Fatalf("%d bytes: %v = %s, Fault %d; want %s", len(b), x.q, got, o.Fault(), x.answer)
		}
	}
	if o.Fault() != api.ErrShort || o.End() != api.ErrShort {
		t.Fatalf("%d bytes: Fault %d, End %d", len(b), o.Fault(), o.End())
	}
}

// TestP7_11OneForm: what is taken without a fault is just what the Put of its answer writes.
func TestP7_11OneForm(t *testing.T) {
	r := byChance(12)
	for range 20000 {
		b := someBytes(r, r.IntN(14))
		for name, again := range map[string]func(o *cursor.Reader) []byte{
			"uint8":   func(o *cursor.Reader) []byte { return cursor.Put(nil, cursor.Take[uint8](o)) },
			"pair":    func(o *cursor.Reader) []byte { return cursor.Put(nil, cursor.Take[pair](o)) },
			"uint32":  func(o *cursor.Reader) []byte { return cursor.Put(nil, cursor.Take[uint32](o)) },
			"eight":   func(o *cursor.Reader) []byte { return cursor.Put(nil, cursor.Take[eight](o)) },
			"Uvarint": func(o *cursor.Reader) []byte { return cursor.PutUvarint(nil, o.Uvarint()) },
			"Varint":  func(o *cursor.Reader) []byte { return cursor.PutVarint(nil, o.Varint()) },
			"Block":   func(o *cursor.Reader) []byte { return cursor.PutBlock(nil, o.Block(1<<20)) },
			"Texts":   func(o *cursor.Reader) []byte { return cursor.PutTexts(nil, o.Texts(1<<20, 1<<20)...) },
		} {
			o := cursor.Open(b)
			if p := again(o); o.Fault() == api.OK && !slices.Equal(p, b[:len(b)-o.Left()]) {
				t.Fatalf("%s of % X is put as % X", name, b, p)
			}
		}
	}
}

// TestReadings: readings by chance, one behind the other, as the plain reader does them.
func TestReadings(t *testing.T) {
	r, every := byChance(13), everyReading()
	for range 4000 {
		b := someBytes(r, r.IntN(40))
		o, p := cursor.Open(b), &plainReader{b: b}
		for range 12 {
			q := every[r.IntN(len(every))]
			if r.IntN(3) > 0 && (q.most < 0 || q.each < 0) {
				continue
			}
			got, want := read(o, q), p.read(q)
			if got != want || o.Left() != len(b)-p.at || o.Fault() != p.fault || o.End() != p.end() {
				t.Fatalf("% X: %v = %s, Left %d, Fault %d; want %s, %d, %d", b, q, got, o.Left(), o.Fault(), want, len(b)-p.at, p.fault)
			}
		}
	}
}

// TestW0EveryCall: every reading of every short list of edge bytes ends without a panic, as the plain one does.
func TestW0EveryCall(t *testing.T) {
	edges := []byte{0, 1, 2, 127, 128, 129, 255}
	every := everyReading()
	for n := range 4 {
		b := make([]byte, n)
		var fill func(i int)
		fill = func(i int) {
			if i < n {
				for _, c := range edges {
					b[i] = c
					fill(i + 1)
				}
				return
			}
			for _, q := range every {
				same(t, b, q)
			}
		}
		fill(0)
	}
}

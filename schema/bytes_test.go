package schema_test

import (
	"bytes"
	"math"
	"slices"
	"strings"
	"testing"

	"colonnade/api"
	"colonnade/schema"
)

func mustPut(t *testing.T, l []api.Column, want []byte) {
	t.Helper()
	if b, e := schema.Put(l); e != api.OK || !bytes.Equal(b, want) {
		t.Fatalf("Put(%s) = %s, %d; want %s", brief(l), brief(b), e, brief(want))
	}
}

func mustNotPut(t *testing.T, l []api.Column) {
	t.Helper()
	if b, e := schema.Put(l); e != api.ErrSchema || len(b) != 0 {
		t.Fatalf("Put(%s) = %s, %d; want ErrSchema", brief(l), brief(b), e)
	}
}

func mustTake(t *testing.T, b []byte, want []api.Column) {
	t.Helper()
	if l, e := schema.Take(b); e != api.OK || !slices.Equal(l, want) {
		t.Fatalf("Take(%s) = %s, %d; want %s", brief(b), brief(l), e, brief(want))
	}
}

func mustNotTake(t *testing.T, b []byte) {
	t.Helper()
	if l, e := schema.Take(b); e != api.ErrSchema || len(l) != 0 {
		t.Fatalf("Take(%s) = %s, %d; want ErrSchema", brief(b), brief(l), e)
	}
}

// takeAsPlain holds Take against the plain reading, and tells whether the bytes are a form.
func takeAsPlain(t *testing.T, b []byte) bool {
	t.Helper()
	l, is := plainTake(b)
	if is {
		mustTake(t, b, l)
	} else {
		mustNotTake(t, b)
	}
	return is
}

// TestP15_3WrittenOut: forms with every Type and Null, and lengths on either side of what a byte holds.
func TestP15_3WrittenOut(t *testing.T) {
	long := strings.Repeat("N", 64)
	for _, x := range []struct {
		l    []api.Column
		form string
	}{
		{list(whole("a")), "\x01\x01a\x01"},
		{list(words("a")), "\x01\x01a\x02"},
		{list(nullable(whole("a"))), "\x01\x01a\x05"},
		{list(nullable(words("a"))), "\x01\x01a\x06"},
		{list(whole("id"), nullable(words("name"))), "\x02\x02id\x01\x04name\x06"},
		{list(words("Z_9"), whole("z"), nullable(whole("Z"))), "\x03\x03Z_9\x02\x01z\x01\x01Z\x05"},
		{list(whole(long)), "\x01\x40" + long + "\x01"},
		{list(whole("b"), whole("a")), "\x02\x01b\x01\x01a\x01"},
	} {
		mustPut(t, x.l, []byte(x.form))
		mustTake(t, []byte(x.form), x.l)
	}
	for n, head := range map[int]string{127: "\x7f", 128: "\x80\x01", 129: "\x81\x01", 255: "\xff\x01", 256: "\x80\x02"} {
		b, e := schema.Put(some(n, 4))
		if e != api.OK || len(b) != len(head)+6*n || string(b[:len(head)+6]) != head+"\x04c000\x01" || string(b[len(head)+6:len(head)+12]) != "\x04c001\x02" {
			t.Errorf("Put of %d columns: %d bytes, %s, %d", n, len(b), brief(b), e)
		}
	}
}

func TestP15_3Good(t *testing.T) {
	for _, l := range goodLists() {
		mustPut(t, l, plainForm(l))
	}
	for n := 1; n <= 256; n++ {
		mustPut(t, some(n, 4), plainForm(some(n, 4)))
	}
}

func TestP15_3Bad(t *testing.T) {
	for _, l := range badLists() {
		mustNotPut(t, l)
	}
}

func TestP15_4Good(t *testing.T) {
	for _, l := range goodLists() {
		mustTake(t, plainForm(l), l)
	}
	for n := 1; n <= 256; n++ {
		mustTake(t, plainForm(some(n, 4)), some(n, 4))
	}
}

// TestP15_4Bad: what columns that may not be would stand as is no form (a Type of more than a byte cannot stand, and is left out).
func TestP15_4Bad(t *testing.T) {
	mustNotTake(t, nil)
	mustNotTake(t, []byte{})
	for _, l := range badLists() {
		if !slices.ContainsFunc(l, func(c api.Column) bool { return c.Type < 0 || c.Type > 250 }) && !isReadAsOther(l) {
			mustNotTake(t, plainForm(l))
		}
	}
}

// isReadAsOther is whether some column's byte is that of another one which may be: a Type of 5 or 6 stands as Int or Text with nulls does.
func isReadAsOther(l []api.Column) bool {
	return slices.ContainsFunc(l, func(c api.Column) bool { return c.Type == 5 || c.Type == 6 })
}

// TestP15_4EveryMark: of all bytes four stand for a Type and Null.
func TestP15_4EveryMark(t *testing.T) {
	marks := map[int]api.Column{1: whole("a"), 2: words("a"), 5: nullable(whole("a")), 6: nullable(words("a"))}
	for m := range 256 {
		for _, x := range []struct {
			ahead, behind string
			l             func(c api.Column) []api.Column
		}{
			{"\x01\x01a", "", func(c api.Column) []api.Column { return list(c) }},
			{"\x02\x01a", "\x01b\x02", func(c api.Column) []api.Column { return list(c, words("b")) }},
			{"\x02\x01b\x02\x01a", "", func(c api.Column) []api.Column { return list(words("b"), c) }},
		} {
			b := slices.Concat([]byte(x.ahead), []byte{byte(m)}, []byte(x.behind))
			if c, is := marks[m]; is {
				mustTake(t, b, x.l(c))
			} else {
				mustNotTake(t, b)
			}
		}
	}
}

// TestP15_4EveryNumber: numbers of columns that are not those which follow, and numbers far beyond what may be.
func TestP15_4EveryNumber(t *testing.T) {
	for _, n := range []int{1, 2, 127, 128, 129, 255, 256, 257, 300} {
		body := plainForm(some(n, 4))[len(plainShort(uint64(n))):]
		for said := range uint64(600) {
			b := append(plainShort(said), body...)
			if said == uint64(n) && n <= 256 {
				mustTake(t, b, some(n, 4))
			} else {
				mustNotTake(t, b)
			}
		}
		for _, said := range []uint64{1 << 14, 1 << 16, 1<<16 + 1, 1<<31 - 1, 1 << 31, 1<<32 + uint64(n), 1<<62 + 1, math.MaxInt64, 1 << 63, 1<<63 + uint64(n), math.MaxUint64, math.MaxUint64 - 255} {
			mustNotTake(t, append(plainShort(said), body...))
			mustNotTake(t, plainShort(said))
		}
	}
}

// TestP15_4EveryLength: lengths of a name that are not the one which follows, one byte or more.
func TestP15_4EveryLength(t *testing.T) {
	for _, n := range []int{1, 2, 63, 64, 65, 66, 128} {
		name := strings.Repeat("x", n)
		for said := range uint64(400) {
			b := slices.Concat([]byte{1}, plainShort(said), []byte(name), []byte{1})
			if said == uint64(n) && n <= 64 {
				mustTake(t, b, list(whole(name)))
			} else {
				mustNotTake(t, b)
			}
		}
		for _, said := range []uint64{1<<32 + uint64(n), 1<<63 + uint64(n), math.MaxInt64, math.MaxUint64, math.MaxUint64 - 1} {
			mustNotTake(t, slices.Concat([]byte{1}, plainShort(said), []byte(name), []byte{1}))
		}
	}
}

// TestP15_4LongerNumbers: numbers in more bytes than they need are no part of a form.
func TestP15_4LongerNumbers(t *testing.T) {
	for _, s := range []string{
		"\x81\x00\x01a\x01", "\x81\x80\x00\x01a\x01", "\x01\x81\x00a\x01", "\x01\x81\x80\x00a\x01", "\x82\x00\x01a\x01\x01b\x01", "\x02\x01a\x01\x81\x00b\x01",
		"\x81\x80\x80\x80\x80\x80\x80\x80\x80\x00\x01a\x01", "\x81\x80\x80\x80\x80\x80\x80\x80\x80\x02\x01a\x01", "\x81\x80\x80\x80\x80\x80\x80\x80\x80\x80\x01\x01a\x01", "\x80\x00", "\x80",
	} {
		mustNotTake(t, []byte(s))
	}
	for _, n := range []int{128, 200, 256} {
		b := plainForm(some(n, 4))
		mustNotTake(t, slices.Concat([]byte{b[0], b[1] | 128, 0}, b[2:]))
	}
}

// TestP15_4EveryShortList: all lists of a few bytes up to some length, as the plain reading has them.
func TestP15_4EveryShortList(t *testing.T) {
	edges := []byte{0, 1, 2, 5, 'a', 'b', 128}
	taken := 0
	for n := range 8 {
		b := make([]byte, n)
		var fill func(i int)
		fill = func(i int) {
			if i < n {
				for _, c := range edges {
					b[i] = c
					fill(i + 1)
				}
				return
			}
			if takeAsPlain(t, b) {
				taken++
			}
		}
		fill(0)
	}
	// One column: of one or two letters out of two, with three marks; two columns: two orders of a and b, with three marks each.
	if want := 3*(2+4) + 2*9; taken != want {
		t.Errorf("%d lists are taken, not %d", taken, want)
	}
}

// TestP15_4EveryOtherByte: every byte of some forms made every other one.
func TestP15_4EveryOtherByte(t *testing.T) {
	for _, l := range goodLists()[:20] {
		form := plainForm(l)
		for i := range form {
			for c := range 256 {
				b := slices.Clone(form)
				b[i] = byte(c)
				takeAsPlain(t, b)
			}
		}
	}
}

// TestP15_4Spoilt: forms with some bytes changed, cut out or put in.
func TestP15_4Spoilt(t *testing.T) {
	r := byChance(5)
	taken := 0
	for range 40000 {
		b := plainForm(someColumns(r, 1+r.IntN(5)))
		for range 1 + r.IntN(2) {
			at := r.IntN(len(b))
			switch r.IntN(3) {
			case 0:
				b[at] += byte(1 + r.IntN(2)*r.IntN(255))
			case 1:
				b = slices.Insert(b, at, someBytes(r, 1+r.IntN(2))...)
			case 2:
				b = append(b[:at:at], b[min(len(b), at+r.IntN(3)):]...)
			}
			if len(b) == 0 {
				b = []byte{0}
			}
		}
		if takeAsPlain(t, b) {
			taken++
		}
	}
	if taken < 500 || taken > 39000 {
		t.Errorf("%d of 40000 are taken", taken)
	}
}

// TestW0AnyBytes: any bytes are answered.
func TestW0AnyBytes(t *testing.T) {
	r := byChance(6)
	for range 20000 {
		takeAsPlain(t, someBytes(r, r.IntN(40)))
	}
	for _, c := range []byte{0, 1, 64, 127, 128, 255} {
		for _, n := range []int{1, 9, 10, 11, 1000, 20000, 1 << 20} {
			takeAsPlain(t, bytes.Repeat([]byte{c}, n))
		}
	}
}

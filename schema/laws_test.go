package schema_test

import (
	"bytes"
	"slices"
	"testing"

	"colonnade/api"
	"colonnade/schema"
)

// putOf is the form of columns that may be.
func putOf(t *testing.T, l []api.Column) []byte {
	t.Helper()
	b, e := schema.Put(l)
	if e != api.OK || len(b) == 0 {
		t.Fatalf("Put(%s) = %s, %d", brief(l), brief(b), e)
	}
	return b
}

func TestP15_5ThereAndBack(t *testing.T) {
	for _, l := range goodLists() {
		got, e := schema.Take(putOf(t, l))
		if e != api.OK || !schema.Same(got, l) || schema.Check(got) != api.OK {
			t.Fatalf("%s comes back as %s, %d", brief(l), brief(got), e)
		}
	}
	r := byChance(7)
	for range 3000 {
		l := someColumns(r, 1+r.IntN(12))
		mustTake(t, putOf(t, l), l)
	}
}

// TestP15_5BackAndThere: bytes that are taken, forms near to each other and far, are put again byte for byte.
func TestP15_5BackAndThere(t *testing.T) {
	r := byChance(8)
	taken := 0
	for range 40000 {
		b := putOf(t, someColumns(r, 1+r.IntN(3)))
		b[r.IntN(len(b))] ^= byte(1 << r.IntN(8))
		l, e := schema.Take(b)
		if e != api.OK {
			continue
		}
		taken++
		if again := putOf(t, l); !bytes.Equal(again, b) {
			t.Fatalf("%s is taken, and put as %s", brief(b), brief(again))
		}
	}
	if taken < 5000 {
		t.Errorf("%d are taken alone", taken)
	}
}

// TestP15_5Unlike: columns have the same form just if they are the Same.
func TestP15_5Unlike(t *testing.T) {
	lists := goodLists()
	for _, l := range goodLists()[:20] {
		for i, c := range l {
			for _, d := range changes(c) {
				o := slices.Clone(l)
				o[i] = d
				if schema.Check(o) == api.OK {
					lists = append(lists, o)
				}
			}
		}
	}
	// Names and what stands behind them cut at other places.
	lists = append(lists, list(whole("ab"), whole("c")), list(whole("a"), whole("bc")), list(whole("abc")), list(whole("a"), whole("b"), whole("c")))
	forms := make([][]byte, len(lists))
	for i, l := range lists {
		forms[i] = putOf(t, l)
	}
	for i := range lists {
		for j := range lists {
			if bytes.Equal(forms[i], forms[j]) != schema.Same(lists[i], lists[j]) {
				t.Fatalf("%s and %s have the forms %s and %s", brief(lists[i]), brief(lists[j]), brief(forms[i]), brief(forms[j]))
			}
		}
	}
}

// TestP15_5Beginnings: no form cut short, at whatever place, is a form.
func TestP15_5Beginnings(t *testing.T) {
	for _, l := range goodLists() {
		b := putOf(t, l)
		for n := range b {
			mustNotTake(t, b[:n])
		}
	}
}

func TestP15_5BytesBehind(t *testing.T) {
	for _, l := range goodLists() {
		b := putOf(t, l)
		for c := range 256 {
			mustNotTake(t, append(slices.Clip(b), byte(c)))
		}
		mustNotTake(t, slices.Concat(b, b))
		mustNotTake(t, slices.Concat(b, []byte("\x01a\x01")))
		mustNotTake(t, append(slices.Clip(b), make([]byte, 70000)...))
	}
}

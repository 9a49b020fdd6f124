package zone_test

import (
	"bytes"
	"math"
	"slices"
	"testing"

	"colonnade/api"
	"colonnade/bloom"
	"colonnade/cursor"
	"colonnade/zone"
)

// turned is b with bit j the other way round.
func turned(b []byte, j int) []byte {
	l := slices.Clone(b)
	l[j/8] ^= 1 << (j % 8)
	return l
}

// around are the values next to v on both sides, as near as may be, or v where there is none.
func around(v api.Value) (below, above api.Value) {
	if v.Kind == api.Int {
		return num(max(v.Int, math.MinInt64+1) - 1), num(min(v.Int, math.MaxInt64-1) + 1)
	}
	below, above = v, v
	if n := len(v.Text); n > 0 {
		below = word(v.Text[:n-1])
	}
	if len(v.Text) < 65535 {
		above = word(v.Text + "\x00")
	}
	return below, above
}

// nearRecords are the record of some values, records a little wider and a little narrower than it, and such that are of other values.
func nearRecords(col api.Column, l []api.Value) []api.Zone {
	var out []api.Zone
	for _, size := range []int{0, 8, 32} {
		z, _ := plainOf(col, l, size)
		out = append(out, z)
		with := func(change func(z *api.Zone)) {
			other := z
			change(&other)
			out = append(out, other)
		}
		with(func(z *api.Zone) { z.Nulls++ })
		with(func(z *api.Zone) { z.Nulls-- })
		with(func(z *api.Zone) { z.Nulls = len(l) })
		with(func(z *api.Zone) { z.Min, z.Max = null, null })
		with(func(z *api.Zone) { z.Bloom = make([]byte, size) })
		with(func(z *api.Zone) { z.Bloom = bytes.Repeat([]byte{255}, size) })
		with(func(z *api.Zone) { z.Bloom = bytes.Repeat([]byte{255}, size+1) })
		with(func(z *api.Zone) { z.Bloom = bytes.Repeat([]byte{255}, 2*size) })
		if z.Min.Kind == 0 {
			v := edgeValues(col.Type)[4]
			with(func(z *api.Zone) { z.Min, z.Max = v, v })
			with(func(z *api.Zone) { z.Min, z.Max = v, v; z.Nulls = 0 })
			continue
		}
		below, above := around(z.Min)
		with(func(z *api.Zone) { z.Min = below })
		with(func(z *api.Zone) { z.Min = above })
		with(func(z *api.Zone) { z.Min = null })
		below, above = around(z.Max)
		with(func(z *api.Zone) { z.Max = above })
		with(func(z *api.Zone) { z.Max = below })
		with(func(z *api.Zone) { z.Max = null })
		with(func(z *api.Zone) { z.Min, z.Max = z.Max, z.Min })
		for j := len(l) % 17; j < 8*size; j += 17 {
			with(func(z *api.Zone) { z.Bloom = turned(z.Bloom, j) })
		}
	}
	return out
}

// TestP14_6Sound: the record of values is sound of them, with every size of a filter.
func TestP14_6Sound(t *testing.T) {
	for i, col := range goodColumns() {
		for _, l := range manyLists(col, 800+uint64(i)) {
			for _, size := range []int{0, 8, 16, 64, 2048} {
				z, e := zone.Of(col, l, size)
				if e != api.OK {
					t.Fatalf("Of(%s, %s, %d): %d", brief(col), brief(l), size, e)
				}
				mustSound(t, col, l, z, true)
				mustMay(t, col, len(l), z, true)
			}
		}
		l := someValues(byChance(uint64(i)), col, 100)
		for _, size := range sizes() {
			z, _ := zone.Of(col, l, size)
			mustSound(t, col, l, z, true)
		}
	}
}

// isWider is whether a record is as wide as another at least, as P14.6 has it.
func isWider(z, than api.Zone) bool {
	if z.Nulls != than.Nulls || isNone(z.Min) != isNone(than.Min) || isNone(z.Max) != isNone(than.Max) {
		return false
	}
	if !isNone(z.Min) && (ahead(than.Min, z.Min) || ahead(z.Max, than.Max)) {
		return false
	}
	for i := range than.Bloom {
		if len(z.Bloom) == len(than.Bloom) && z.Bloom[i]&than.Bloom[i] != than.Bloom[i] {
			return false
		}
	}
	return true
}

// TestP14_6TheNarrowest: every sound record is as wide as that of Of at least; and one with a filter as long, or without any, that is as wide and may be, is sound.
func TestP14_6TheNarrowest(t *testing.T) {
	sound := 0
	for i, col := range goodColumns() {
		for _, l := range manyLists(col, 900+uint64(i)) {
			for _, z := range nearRecords(col, l) {
				size := len(z.Bloom)
				least, e := zone.Of(col, l, size)
				if e == api.ErrBloom {
					mustSound(t, col, l, z, false)
					continue
				}
				is := zone.Sound(col, l, z)
				if is != (isWider(z, least) && plainMayBe(col, z)) {
					t.Fatalf("%s: Sound(%s, %d bytes) = %v beside %s", brief(l), brief(z), size, is, brief(least))
				}
				if is {
					sound++
				}
			}
		}
	}
	if sound < 5000 {
		t.Errorf("%d records alone that are sound", sound)
	}
}

// TestP14_6EachBit: the filter of Of has no bit too many: without any one of them the record is not sound.
func TestP14_6EachBit(t *testing.T) {
	for i, col := range goodColumns() {
		for _, n := range []int{1, 2, 9} {
			l := someValues(byChance(1000+uint64(i)), col, n)
			for _, size := range []int{8, 16, 128} {
				z, _ := zone.Of(col, l, size)
				for j := range 8 * size {
					other := z
					other.Bloom = turned(z.Bloom, j)
					mustSound(t, col, l, other, other.Bloom[j/8] > z.Bloom[j/8])
				}
			}
		}
	}
}

// thereAndBack is P14.7 of a record that may be.
func thereAndBack(t *testing.T, col api.Column, z api.Zone) {
	t.Helper()
	b, e := zone.Put(col, z)
	if e != api.OK {
		t.Fatalf("Put(%s, %s): %d", brief(col), brief(z), e)
	}
	for _, more := range []string{"", "\x00", "more behind it"} {
		r := cursor.Open(append(slices.Clone(b), more...))
		got, e := zone.Take(col, r)
		if e != api.OK || !same(got, z) || r.Left() != len(more) {
			t.Fatalf("Take(Put(%s, %s)) = %s, %d, left %d", brief(col), brief(z), brief(got), e, r.Left())
		}
		mustPut(t, col, got, b)
	}
}

func TestP14_7ThereAndBack(t *testing.T) {
	for i, col := range goodColumns() {
		for _, z := range goodRecords(col) {
			thereAndBack(t, col, z)
		}
		for _, l := range manyLists(col, 1100+uint64(i)) {
			for _, size := range []int{0, 8, 64} {
				z, _ := zone.Of(col, l, size)
				thereAndBack(t, col, z)
			}
		}
	}
}

// TestP14_7OneForm: what is taken of bytes by chance is put as just those bytes.
func TestP14_7OneForm(t *testing.T) {
	r := byChance(71)
	taken := 0
	for range 120000 {
		col := goodColumns()[r.IntN(4)]
		b := someBytes(r, r.IntN(24))
		for i := range b {
			b[i] >>= r.IntN(9)
		}
		o := cursor.Open(b)
		if z, e := zone.Take(col, o); e == api.OK {
			taken++
			mustPut(t, col, z, b[:len(b)-o.Left()])
		}
	}
	if taken < 3000 {
		t.Errorf("%d records alone", taken)
	}
}

// together is the record that P14.8 makes of two.
func together(t *testing.T, a, b api.Zone) api.Zone {
	t.Helper()
	z := api.Zone{Nulls: a.Nulls + b.Nulls, Min: a.Min, Max: a.Max}
	if isNone(z.Min) || !isNone(b.Min) && ahead(b.Min, z.Min) {
		z.Min = b.Min
	}
	if isNone(z.Max) || !isNone(b.Max) && ahead(z.Max, b.Max) {
		z.Max = b.Max
	}
	if len(a.Bloom) > 0 {
		var e api.Errno
		if z.Bloom, e = bloom.Join(a.Bloom, b.Bloom); e != api.OK {
			t.Fatalf("Join: %d", e)
		}
	}
	return z
}

// soundOf are sound records of some values, with a filter of that size.
func soundOf(col api.Column, l []api.Value, size int) []api.Zone {
	return slices.DeleteFunc(nearRecords(col, l), func(z api.Zone) bool { return len(z.Bloom) != size || !zone.Sound(col, l, z) })
}

// TestP14_8PutTogether: the narrowest and wider ones; the narrowest two make the narrowest one.
func TestP14_8PutTogether(t *testing.T) {
	for i, col := range goodColumns() {
		lists := manyLists(col, 1200+uint64(i))
		r := byChance(1300 + uint64(i))
		for range 400 {
			one, two := lists[r.IntN(len(lists))], lists[r.IntN(len(lists))]
			all := slices.Concat(one, two)
			size := []int{0, 8, 32}[r.IntN(3)]
			a, _ := zone.Of(col, one, size)
			b, _ := zone.Of(col, two, size)
			mustOf(t, col, all, size, together(t, a, b))
			wide, other := soundOf(col, one, size), soundOf(col, two, size)
			for range 4 {
				z := together(t, wide[r.IntN(len(wide))], other[r.IntN(len(other))])
				mustSound(t, col, all, z, true)
				mustMay(t, col, len(all), z, true)
			}
		}
	}
}

// TestP14_9SoundMayBe: a record that is sound of values may be for that many rows, and is put.
func TestP14_9SoundMayBe(t *testing.T) {
	sound := 0
	for i, col := range goodColumns() {
		for _, l := range manyLists(col, 1400+uint64(i)) {
			for _, z := range nearRecords(col, l) {
				if !zone.Sound(col, l, z) {
					continue
				}
				sound++
				mustMay(t, col, len(l), z, true)
				mustPut(t, col, z, plainBytes(z))
			}
		}
	}
	if sound < 5000 {
		t.Errorf("%d records alone that are sound", sound)
	}
}

// TestP14_2AsSomeList: a record that may be for so many rows is sound of some values, of a list of Min and Max and Nulls, if its filter has them.
func TestP14_2AsSomeList(t *testing.T) {
	full := bytes.Repeat([]byte{255}, 8)
	for _, col := range goodColumns() {
		l := edgeValues(col.Type)
		for nulls := range 4 {
			for rows := range 6 {
				for _, b := range [][]byte{nil, full} {
					z := api.Zone{Nulls: nulls, Bloom: b}
					values := make([]api.Value, min(nulls, rows))
					for i := nulls; i < rows; i++ {
						z.Min, z.Max = l[2], l[5]
						values = append(values, []api.Value{l[2], l[5]}[i%2])
					}
					mustMay(t, col, rows, z, plainSound(col, values, z))
					mustSound(t, col, values, z, nulls <= rows && (nulls == 0 || col.Null))
				}
			}
		}
	}
}

// TestW0EveryCall: all calls at all columns, values and records of these tests end without a panic, as the plain reading has them.
func TestW0EveryCall(t *testing.T) {
	values := [][]api.Value{nil, list(null), wrongValues(), nums(5, -5), words("a", ""), list(num(1), word("b"))}
	records := append(edgeRecords(api.Int)[:400], edgeRecords(api.Text)[:400]...)
	for _, col := range append(goodColumns(), badColumns()...) {
		for _, l := range values {
			for _, size := range append(append(wrongSizes(), 0), sizes()...) {
				ofAsPlain(t, col, l, size)
			}
			for _, v := range l {
				ofAsPlain(t, col, list(v), 8)
			}
		}
		for i, z := range records {
			mustMay(t, col, i%3, z, plainMay(col, i%3, z))
			mustSound(t, col, values[i%len(values)], z, plainSound(col, values[i%len(values)], z))
			takeAsPlain(t, col, plainBytes(z))
			if b, e := zone.Put(col, z); (e == api.OK) != plainMayBe(col, z) || (len(b) > 0) != (e == api.OK) {
				t.Fatalf("Put(%s, %s) = %s, %d", brief(col), brief(z), brief(b), e)
			}
		}
	}
}

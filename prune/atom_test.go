package prune_test

import (
	"bytes"
	"math"
	"slices"
	"strings"
	"testing"

	"colonnade/api"
	"colonnade/bloom"
	"colonnade/prune"
)

// goodZones are records of 3 rows of a column whose bounds are among those values, the last with nulls alone, if there may be some.
func goodZones(c api.Column, l []api.Value) []api.Zone {
	nulls := []int{0}
	if c.Null {
		nulls = []int{0, 1, 2}
	}
	var out []api.Zone
	for i, from := range l {
		for _, to := range l[i:] {
			for _, n := range nulls {
				out = append(out, api.Zone{Nulls: n, Min: from, Max: to})
			}
		}
	}
	if c.Null {
		out = append(out, api.Zone{Nulls: 3})
	}
	return out
}

// TestP26_2Bounds: every atom of few values, by every pair of bounds among them, with all switches.
func TestP26_2Bounds(t *testing.T) {
	for _, c := range fourColumns() {
		for _, l := range [][]api.Value{fewValues(c.Type), edgeValues(c.Type)} {
			for _, z := range goodZones(c, l) {
				for _, p := range atomsOf(c, l) {
					for _, o := range switches() {
						mustAtom(t, c, 3, z, p, o)
					}
				}
			}
		}
	}
}

// filters are such as have none of the values, all, and some of them.
func filters(l []api.Value) [][]byte {
	out := [][]byte{nil, make([]byte, 8), bytes.Repeat([]byte{255}, 8), make([]byte, 65536)}
	for size := 8; size <= 65536; size *= 16 {
		for k := range 3 {
			var some []api.Value
			for i := k; i < len(l); i += 3 {
				some = append(some, l[i])
			}
			b, _ := bloom.Build(size, some)
			out = append(out, b)
		}
	}
	return out
}

// TestP26_2Filters: the same by filters, which may stand beside bounds that lie outside of what they have.
func TestP26_2Filters(t *testing.T) {
	for _, c := range fourColumns() {
		l := fewValues(c.Type)
		for _, z := range goodZones(c, l[1:5]) {
			for _, z.Bloom = range filters(l) {
				for _, p := range atomsOf(c, slices.Concat(l[:4], edgeValues(c.Type)[6:8])) {
					for _, o := range switches()[:4] {
						mustAtom(t, c, 3, z, p, o)
					}
				}
			}
		}
	}
}

// TestP26_2FilterAlone: which atoms a filter says something of, and what.
func TestP26_2FilterAlone(t *testing.T) {
	c := api.Column{Name: "i", Type: api.Int}
	has, _ := bloom.Build(64, list(num(4)))
	z := api.Zone{Min: num(3), Max: num(9), Bloom: has}
	one := api.Zone{Min: num(5), Max: num(5), Bloom: has}
	by, both, zones := api.Options{Blooms: true}, api.Options{Zones: true, Blooms: true}, api.Options{Zones: true}
	for _, row := range []struct {
		p    api.Pred
		z    api.Zone
		o    api.Options
		want string
	}{
		{compared("i", api.Eq, num(4)), z, by, "NY"}, {compared("i", api.Eq, num(5)), z, by, "N"}, {compared("i", api.Eq, num(5)), z, zones, "NY"}, {compared("i", api.Eq, num(4)), z, both, "NY"},
		{compared("i", api.Ne, num(4)), z, by, "NY"}, {compared("i", api.Ne, num(5)), z, by, "Y"}, {compared("i", api.Ne, num(5)), z, both, "Y"}, {compared("i", api.Ne, num(5)), z, zones, "NY"},
		{in("i", num(5), num(4)), z, by, "NY"}, {in("i", num(5), num(6)), z, by, "N"}, {in("i", num(6), num(5)), z, zones, "NY"},
		{between("i", num(5), num(5)), z, by, "NY"}, {compared("i", api.Le, num(5)), z, by, "NY"}, {compared("i", api.Gt, num(math.MaxInt64)), z, by, "NY"},
		{compared("i", api.Eq, num(4)), one, by, "NY"}, {compared("i", api.Eq, num(4)), one, both, "N"}, {compared("i", api.Eq, num(5)), one, zones, "Y"},
		{compared("i", api.Eq, num(5)), one, both, ""}, {compared("i", api.Ne, num(5)), one, both, ""}, {in("i", num(4), num(5)), one, both, ""}, {compared("i", api.Eq, num(5)), one, by, "N"},
	} {
		if got, e := prune.Atom(c, 2, row.z, row.p, row.o); got != set(row.want) || e != api.OK {
			t.Errorf("%s, %v: %v, %d; want %s", brief(row.p), row.o, got, e, row.want)
		}
	}
}

// TestP26_2Nulls: with Zones it is the record that says whether there can be nulls, and others; without, the column.
func TestP26_2Nulls(t *testing.T) {
	on, off := api.Options{Zones: true}, api.Options{Blooms: true}
	for _, row := range []struct {
		null           bool
		nulls          int
		o              api.Options
		isNull, others string
	}{
		{true, 0, on, "N", "NY"}, {true, 1, on, "NY", "NYM"}, {true, 2, on, "NY", "NYM"}, {true, 3, on, "Y", "M"}, {false, 0, on, "N", "NY"},
		{true, 0, off, "NY", "NYM"}, {true, 1, off, "NY", "NYM"}, {true, 3, off, "NY", "NYM"}, {false, 0, off, "N", "NY"},
	} {
		c := api.Column{Name: "i", Type: api.Int, Null: row.null}
		z := api.Zone{Nulls: row.nulls}
		if row.nulls < 3 {
			z.Min, z.Max = num(1), num(9)
		}
		for p, want := range map[int]string{api.PredNull: row.isNull, api.PredCompare: row.others} {
			atom := isNull("i")
			if p == api.PredCompare {
				atom = compared("i", api.Eq, num(5))
			}
			if got, e := prune.Atom(c, 3, z, atom, row.o); got != set(want) || e != api.OK {
				t.Errorf("%v, %d nulls, %v, %s: %v, %d; want %s", row.null, row.nulls, row.o, brief(atom), got, e, want)
			}
		}
	}
}

// TestP26_2Rows: of no rows nothing is possible; of the most there may be, as of few.
func TestP26_2Rows(t *testing.T) {
	for _, c := range fourColumns() {
		l := fewValues(c.Type)
		for _, p := range atomsOf(c, l[:4]) {
			for _, o := range switches() {
				for _, filter := range [][]byte{nil, make([]byte, 8)} {
					if got, e := prune.Atom(c, 0, api.Zone{Bloom: filter}, p, o); got != none || e != api.OK {
						t.Fatalf("%s of no rows: %v, %d", brief(p), got, e)
					}
				}
				for _, rows := range []int{1, 2, 1<<24 - 1, 1 << 24} {
					mustAtom(t, c, rows, api.Zone{Min: l[1], Max: l[3]}, p, o)
					mustAtom(t, c, rows, api.Zone{Nulls: rows - 1, Min: l[2], Max: l[2]}, p, o)
					mustAtom(t, c, rows, api.Zone{Nulls: rows}, p, o)
				}
			}
		}
	}
}

// TestP26_2Long: lists of as many values as there may be, and one more; texts of as many bytes, and one more.
func TestP26_2Long(t *testing.T) {
	c := api.Column{Name: "i", Type: api.Int}
	l := make([]api.Value, 1025)
	for i := range l {
		l[i] = num(int64(i))
	}
	for _, z := range []api.Zone{{Min: num(1023), Max: num(1023)}, {Min: num(1023), Max: num(2000)}, {Min: num(1024), Max: num(1024)}, {Min: num(-5), Max: num(0)}} {
		for _, o := range switches() {
			mustAtom(t, c, 2, z, in("i", l[:1024]...), o)
			mustAtom(t, c, 2, z, in("i", l...), o)
		}
	}
	words := api.Column{Name: "t", Type: api.Text}
	for _, n := range []int{65534, 65535, 65536} {
		s := strings.Repeat("x", n)
		for _, p := range []api.Pred{begins("t", word(s)), compared("t", api.Le, word(s)), in("t", word(""), word(s)), between("t", word("x"), word(s))} {
			mustAtom(t, words, 2, api.Zone{Min: word("x"), Max: word(longest('x'))}, p, api.Options{Zones: true, Blooms: true})
			mustAtom(t, words, 2, api.Zone{Min: word("x"), Max: word(s)}, p, api.Options{Zones: true})
		}
	}
}

// badZones may not be for the column and 3 rows.
func badZones(c api.Column) []api.Zone {
	l := fewValues(c.Type)
	other := fewValues(3 - c.Type)
	out := []api.Zone{
		{}, {Nulls: 2}, {Nulls: 4}, {Nulls: 3, Min: l[1], Max: l[2]}, {Nulls: -1, Min: l[1], Max: l[2]}, {Min: l[2], Max: l[1]}, {Min: l[1]}, {Max: l[1]}, {Min: other[1], Max: other[2]}, {Min: l[1], Max: other[6]}, {Min: float(1), Max: float(2)},
		{Nulls: math.MinInt, Min: l[1], Max: l[2]}, {Nulls: math.MaxInt, Min: l[1], Max: l[2]}, {Nulls: 3, Min: api.Value{Real: minusZero}},
	}
	for _, n := range []int{1, 4, 7, 9, 12, 24, 65535, 131072} {
		out = append(out, api.Zone{Min: l[1], Max: l[2], Bloom: make([]byte, n)})
	}
	if !c.Null {
		out = append(out, api.Zone{Nulls: 1, Min: l[1], Max: l[2]}, api.Zone{Nulls: 3})
	}
	return out
}

// badColumns are those whose Type is neither Int nor Text.
func badColumns() []api.Column {
	var out []api.Column
	for _, kind := range []int{0, 3, 4, -1, 257, 258, 1<<32 + 1, math.MinInt, math.MaxInt} {
		out = append(out, api.Column{Name: "a", Type: kind}, api.Column{Name: "a", Type: kind, Null: true})
	}
	return out
}

// TestP26_2Errors: the column's, the record's and the atom's fault, in this order, each with what comes behind it right and wrong.
func TestP26_2Errors(t *testing.T) {
	cols := append(fourColumns(), badColumns()...)
	atoms := append(badAtoms(), isNull("a"), compared("a", api.Eq, num(1)), begins("t", word("b")), in("s", word("a")), between("n", num(2), num(1)), all, and(all, all), not(isNull("a")))
	for _, kind := range otherKinds() {
		atoms = append(atoms, api.Pred{Kind: kind, Column: "a"})
	}
	for _, c := range cols {
		like := c
		if like.Type != api.Int && like.Type != api.Text {
			like.Type = api.Int
		}
		zones := append(badZones(like), api.Zone{Min: fewValues(like.Type)[1], Max: fewValues(like.Type)[3]})
		for _, z := range zones {
			for _, p := range atoms {
				mustAtom(t, c, 3, z, p, api.Options{Zones: true})
				mustAtom(t, c, 3, z, p, api.Options{})
			}
		}
		for _, rows := range []int{-1, 0, 1<<24 + 1, math.MinInt, math.MaxInt} {
			for _, p := range atoms {
				mustAtom(t, c, rows, zones[0], p, api.Options{Zones: true})
				mustAtom(t, c, rows, zones[len(zones)-1], p, api.Options{Blooms: true})
			}
		}
	}
}

// TestP26_2ErrorsTold: the errors by their names, beside nothing.
func TestP26_2ErrorsTold(t *testing.T) {
	c, good, bad := api.Column{Name: "i", Type: api.Int}, api.Zone{Min: num(1), Max: num(2)}, api.Zone{Nulls: 1, Min: num(1), Max: num(2)}
	eq := compared("i", api.Eq, num(5))
	for i, row := range []struct {
		c    api.Column
		rows int
		z    api.Zone
		p    api.Pred
		want api.Errno
	}{
		{api.Column{Name: "i", Type: api.Real}, -1, bad, api.Pred{Kind: 9}, api.ErrSchema}, {api.Column{Name: "i"}, 2, good, eq, api.ErrSchema},
		{c, -1, good, api.Pred{Kind: 9}, api.ErrZone}, {c, 2, bad, api.Pred{Kind: 9}, api.ErrZone}, {c, 0, good, eq, api.ErrZone}, {c, 0, api.Zone{}, eq, api.OK}, {c, 1, api.Zone{}, eq, api.ErrZone}, {c, 1<<24 + 1, good, eq, api.ErrZone},
		{c, 0, api.Zone{}, api.Pred{Kind: 9}, api.ErrOp}, {c, 2, good, begins("i", word("x")), api.ErrOp}, {c, 2, good, between("i", num(1)), api.ErrArg}, {c, 2, good, isNull("k"), api.ErrColumn}, {c, 2, good, in("i", slices.Repeat(list(num(1)), 1025)...), api.ErrLarge}, {c, 2, good, compared("i", 1, word("x")), api.ErrValue},
	} {
		for _, o := range switches() {
			if got, e := prune.Atom(row.c, row.rows, row.z, row.p, o); e != row.want || got != none {
				t.Errorf("row %d, %v: %v, %d; want %d", i, o, got, e, row.want)
			}
		}
	}
}

// TestP26_2AnyName: neither a column's name nor whether it may be is asked, but that it is the atom's.
func TestP26_2AnyName(t *testing.T) {
	for _, name := range []string{"", "9 é", strings.Repeat("t", 65), "A", "a"} {
		c := api.Column{Name: name, Type: api.Int, Null: true}
		for _, p := range atomsOf(c, fewValues(api.Int)[:4]) {
			mustAtom(t, c, 3, api.Zone{Nulls: 1, Min: num(0), Max: num(2)}, p, api.Options{Zones: true})
			p.Column += "x"
			mustAtom(t, c, 3, api.Zone{Nulls: 1, Min: num(0), Max: num(2)}, p, api.Options{Zones: true})
		}
	}
}

package prune_test

import (
	"testing"

	"colonnade/api"
	"colonnade/prune"
)

// TestExamples: the chapter's tables.
func TestExamples(t *testing.T) {
	col := api.Column{Name: "i", Type: api.Int, Null: true}
	z := api.Zone{Nulls: 1, Min: num(3), Max: num(9)}
	on, off := api.Options{Zones: true}, api.Options{}
	eq := func(i int64) api.Pred { return compared("i", api.Eq, num(i)) }
	for _, row := range []struct {
		p    api.Pred
		o    api.Options
		want string
	}{
		{eq(5), on, "NYM"}, {eq(2), on, "NM"}, {compared("i", api.Ne, num(2)), on, "YM"},
		{compared("i", api.Lt, num(3)), on, "NM"}, {compared("i", api.Le, num(9)), on, "YM"}, {compared("i", api.Gt, num(9)), on, "NM"},
		{in("i"), on, "NM"}, {in("i", num(1), num(4)), on, "NYM"}, {between("i", num(0), num(9)), on, "YM"}, {between("i", num(9), num(3)), on, "NM"},
		{isNull("i"), on, "NY"}, {eq(2), off, "NYM"}, {isNull("i"), off, "NY"},
	} {
		if got, e := prune.Atom(col, 4, z, row.p, row.o); got != set(row.want) || e != api.OK {
			t.Errorf("%s: %v, %d; want %s", brief(row.p), got, e, row.want)
		}
		if got, e := prune.Atom(col, 0, api.Zone{}, row.p, row.o); got != none || e != api.OK {
			t.Errorf("%s of no rows: %v, %d", brief(row.p), got, e)
		}
	}
	if got := prune.And(set("YM"), set("NY")); got != set("NYM") {
		t.Errorf("And: %v", got)
	}
	if prune.Or(set("N"), none) != none || prune.Not(set("YM")) != set("NM") {
		t.Errorf("Or: %v; Not: %v", prune.Or(set("N"), none), prune.Not(set("YM")))
	}
	words := api.Column{Name: "t", Type: api.Text}
	for _, row := range [][3]string{{"aa", "abz", "NY"}, {"ab", "abz", "Y"}, {"ac", "b", "N"}} {
		got, e := prune.Atom(words, 2, api.Zone{Min: word(row[0]), Max: word(row[1])}, begins("t", word("ab")), on)
		if got != set(row[2]) || e != api.OK {
			t.Errorf("begins, %v: %v, %d", row, got, e)
		}
	}
}

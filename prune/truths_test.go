package prune_test

import (
	"testing"

	"colonnade/api"
	"colonnade/prune"
)

// TestP26_1: every pair of sets there is.
func TestP26_1(t *testing.T) {
	for _, a := range allSets() {
		if got, want := prune.Not(a), opposed(a); got != want {
			t.Errorf("Not(%v) = %v, not %v", a, got, want)
		}
		for _, b := range allSets() {
			if got, want := prune.And(a, b), pairwise(a, b, least); got != want {
				t.Errorf("And(%v, %v) = %v, not %v", a, b, got, want)
			}
			if got, want := prune.Or(a, b), pairwise(a, b, greatest); got != want {
				t.Errorf("Or(%v, %v) = %v, not %v", a, b, got, want)
			}
		}
	}
}

// TestP26_1Empty: of an empty set all of them are empty.
func TestP26_1Empty(t *testing.T) {
	if prune.Not(none) != none {
		t.Errorf("Not of none is %v", prune.Not(none))
	}
	for _, a := range allSets() {
		for _, got := range []api.Truths{prune.And(a, none), prune.And(none, a), prune.Or(a, none), prune.Or(none, a)} {
			if got != none {
				t.Errorf("%v and none come to %v", a, got)
			}
		}
	}
}

// TestP26_1Single: of one truth each it is the truth that the page says.
func TestP26_1Single(t *testing.T) {
	for _, row := range []struct{ a, b, and, or string }{
		{"N", "N", "N", "N"}, {"N", "M", "N", "M"}, {"N", "Y", "N", "Y"}, {"M", "M", "M", "M"}, {"M", "Y", "M", "Y"}, {"Y", "Y", "Y", "Y"},
	} {
		a, b := set(row.a), set(row.b)
		if prune.And(a, b) != set(row.and) || prune.And(b, a) != set(row.and) || prune.Or(a, b) != set(row.or) || prune.Or(b, a) != set(row.or) {
			t.Errorf("%s and %s: %v, %v", row.a, row.b, prune.And(a, b), prune.Or(a, b))
		}
	}
	if prune.Not(set("N")) != set("Y") || prune.Not(set("Y")) != set("N") || prune.Not(set("M")) != set("M") {
		t.Error("Not of one truth")
	}
}

// TestP26_7Orders: in any order, and grouped as one likes.
func TestP26_7Orders(t *testing.T) {
	for _, put := range []func(a, b api.Truths) api.Truths{prune.And, prune.Or} {
		for _, a := range allSets() {
			for _, b := range allSets() {
				if put(a, b) != put(b, a) {
					t.Errorf("%v and %v come to %v one way, to %v the other", a, b, put(a, b), put(b, a))
				}
				for _, c := range allSets() {
					if put(put(a, b), c) != put(a, put(b, c)) || put(put(a, b), c) != put(put(c, a), b) {
						t.Errorf("%v, %v and %v hang on how they are grouped", a, b, c)
					}
				}
			}
		}
	}
}

// TestP26_7Not: Not of And is Or of the Nots, and the reverse; Not of Not is the set itself.
func TestP26_7Not(t *testing.T) {
	for _, a := range allSets() {
		if prune.Not(prune.Not(a)) != a {
			t.Errorf("Not of Not of %v is %v", a, prune.Not(prune.Not(a)))
		}
		for _, b := range allSets() {
			if prune.Not(prune.And(a, b)) != prune.Or(prune.Not(a), prune.Not(b)) || prune.Not(prune.Or(a, b)) != prune.And(prune.Not(a), prune.Not(b)) {
				t.Errorf("Not does not go through And and Or of %v and %v", a, b)
			}
		}
	}
}

package schema_test

import (
	"slices"
	"strings"
	"testing"

	"colonnade/api"
	"colonnade/schema"
)

func mustFind(t *testing.T, l []api.Column, name string, at int, is bool) {
	t.Helper()
	if i, ok := schema.Find(l, name); i != at || ok != is {
		t.Fatalf("Find(%s, %q) = %d, %v; want %d, %v", brief(l), name, i, ok, at, is)
	}
}

func mustSame(t *testing.T, a, b []api.Column, want bool) {
	t.Helper()
	if schema.Same(a, b) != want || schema.Same(b, a) != want {
		t.Fatalf("Same(%s, %s), either way: not %v", brief(a), brief(b), want)
	}
}

// TestP15_2FindFirst: of several columns of a name the first counts, whether it is good or not.
func TestP15_2FindFirst(t *testing.T) {
	l := list(whole("b"), nullable(words("a")), whole("a"), whole("b"), whole("a"), whole("c"))
	mustFind(t, l, "a", 1, true)
	mustFind(t, l[2:], "a", 0, true)
	mustFind(t, l, "b", 0, true)
	mustFind(t, l[1:], "b", 2, true)
	mustFind(t, l, "c", 5, true)
	mustFind(t, slices.Repeat(list(whole("x")), 300), "x", 0, true)
	mustFind(t, append(slices.Repeat(list(whole("x")), 300), whole("y")), "y", 300, true)
}

func TestP15_2FindNone(t *testing.T) {
	mustFind(t, nil, "", 0, false)
	mustFind(t, nil, "a", 0, false)
	mustFind(t, []api.Column{}, "a", 0, false)
	l := list(whole("a"), whole("bc"), whole("D"))
	for _, name := range []string{"", "A", "d", "b", "c", "abc", "bc ", " bc", "bcd", "bc\x00", "aa", "é", strings.Repeat("a", 1<<20)} {
		mustFind(t, l, name, 0, false)
	}
	mustFind(t, l[:2:3], "D", 0, false)
}

// TestP15_2FindAnything: whether columns may be is not asked.
func TestP15_2FindAnything(t *testing.T) {
	l := list(api.Column{Name: "9a", Type: 7}, api.Column{}, api.Column{Name: "é", Type: -1, Null: true}, whole("a b"), whole(strings.Repeat("x", 65)), whole("\xff\x00"), words("é"))
	for i, c := range l[:6] {
		mustFind(t, l, c.Name, i, true)
	}
	mustFind(t, l, "e", 0, false)
	mustFind(t, l, "\xff", 0, false)
	many := some(1000, 5)
	for i, c := range many {
		mustFind(t, many, c.Name, i, true)
	}
}

// TestP15_2FindByChance: as the plain reading has it, which goes from the last column down.
func TestP15_2FindByChance(t *testing.T) {
	r := byChance(3)
	for range 5000 {
		l := make([]api.Column, r.IntN(8))
		for i := range l {
			l[i] = api.Column{Name: strings.Repeat("ab", r.IntN(2)) + []string{"", "a", "b", "A"}[r.IntN(4)], Type: r.IntN(4)}
		}
		for _, name := range []string{"", "a", "b", "ab", "aba", "abb", "A"} {
			at, is := 0, false
			for i := len(l) - 1; i >= 0; i-- {
				if l[i].Name == name {
					at, is = i, true
				}
			}
			mustFind(t, l, name, at, is)
		}
	}
}

// TestP15_6EachName: of columns that may be each is found by its name, and no other name is.
func TestP15_6EachName(t *testing.T) {
	r := byChance(4)
	for _, l := range goodLists() {
		names := map[string]int{}
		for i, c := range l {
			mustFind(t, l, c.Name, i, true)
			names[c.Name] = i
		}
		var others []string
		for _, c := range l {
			others = append(others, c.Name+"x", c.Name[1:], c.Name[:len(c.Name)-1], strings.ToUpper(c.Name), strings.ToLower(c.Name), " "+c.Name, c.Name+"\x00", someName(r))
		}
		for _, name := range append(others, badNames()[:40]...) {
			at, is := names[name]
			mustFind(t, l, name, at, is)
		}
	}
}

// changes are columns beside c that are unlike it in one field.
func changes(c api.Column) []api.Column {
	turned, other, near, upper := c, c, c, c
	turned.Null = !c.Null
	other.Type = 3 - c.Type
	near.Name += "x"
	upper.Name = strings.ToUpper(c.Name) + strings.ToLower(c.Name)
	return list(turned, other, near, upper)
}

// TestP15_2SameEachField: a field that is unlike, at each place, is seen.
func TestP15_2SameEachField(t *testing.T) {
	for _, l := range goodLists() {
		mustSame(t, l, slices.Clone(l), true)
		for i, c := range l {
			for _, d := range changes(c) {
				o := slices.Clone(l)
				o[i] = d
				mustSame(t, l, o, false)
			}
		}
	}
}

func TestP15_2SameNumber(t *testing.T) {
	mustSame(t, nil, []api.Column{}, true)
	mustSame(t, nil, make([]api.Column, 0, 4), true)
	mustSame(t, nil, list(api.Column{}), false)
	mustSame(t, make([]api.Column, 3), make([]api.Column, 3), true)
	mustSame(t, make([]api.Column, 3), make([]api.Column, 4), false)
	for _, l := range goodLists() {
		mustSame(t, l, nil, false)
		mustSame(t, l, l[:len(l)-1], false)
		mustSame(t, l, l[1:], false)
		mustSame(t, l, append(slices.Clone(l), whole("one_more")), false)
		mustSame(t, l, append(slices.Clone(l), api.Column{}), false)
	}
}

// TestP15_2SameOrder: the same columns at other places are not the same.
func TestP15_2SameOrder(t *testing.T) {
	for _, l := range goodLists() {
		back := slices.Clone(l)
		slices.Reverse(back)
		mustSame(t, l, back, len(l) == 1)
	}
}

// TestP15_2SameAnything: whether columns may be is not asked, and names are compared to the last byte.
func TestP15_2SameAnything(t *testing.T) {
	for _, l := range badLists() {
		mustSame(t, l, slices.Clone(l), true)
		if len(l) > 0 {
			o := slices.Clone(l)
			o[len(o)-1].Null = !o[len(o)-1].Null
			mustSame(t, l, o, false)
		}
	}
	for _, kind := range badTypes() {
		mustSame(t, list(api.Column{Name: "a", Type: kind}), list(api.Column{Name: "a", Type: kind}), true)
		mustSame(t, list(api.Column{Name: "a", Type: kind}), list(api.Column{Name: "a", Type: kind ^ 1<<40}), false)
		mustSame(t, list(api.Column{Name: "a", Type: kind}), list(api.Column{Name: "a", Type: kind ^ 256}), false)
	}
	mustSame(t, list(whole("a\x00")), list(whole("a")), false)
	mustSame(t, list(whole(strings.Repeat("x", 1<<20)+"a")), list(whole(strings.Repeat("x", 1<<20)+"b")), false)
}

package value_test

import (
	"math"
	"slices"
	"testing"

	"colonnade/api"
	"colonnade/value"
)

// truths in their order.
var truths = []api.Truth{api.No, api.Maybe, api.Yes}

// place is where a truth, or a number that counts as one, stands among truths.
func place(t api.Truth) int {
	if i := slices.Index(truths, t); i >= 0 {
		return i
	}
	return 1
}

// numbers are all that an api.Truth can be.
func numbers() []api.Truth {
	var l []api.Truth
	for n := math.MinInt8; n <= math.MaxInt8; n++ {
		l = append(l, api.Truth(n))
	}
	return l
}

func TestP5_5None(t *testing.T) {
	if value.And() != api.Yes || value.And(nil...) != api.Yes || value.And([]api.Truth{}...) != api.Yes {
		t.Error("And of none")
	}
	if value.Or() != api.No || value.Or(nil...) != api.No || value.Or([]api.Truth{}...) != api.No {
		t.Error("Or of none")
	}
}

func TestP5_5AllNumbers(t *testing.T) {
	for _, a := range numbers() {
		if value.And(a) != truths[place(a)] || value.Or(a) != truths[place(a)] {
			t.Errorf("And and Or of %d alone: %d, %d", a, value.And(a), value.Or(a))
		}
		if value.Not(a) != truths[2-place(a)] {
			t.Errorf("Not(%d) = %d", a, value.Not(a))
		}
		for _, b := range numbers() {
			if c := value.And(a, b); c != truths[min(place(a), place(b))] {
				t.Errorf("And(%d, %d) = %d", a, b, c)
			}
			if c := value.Or(a, b); c != truths[max(place(a), place(b))] {
				t.Errorf("Or(%d, %d) = %d", a, b, c)
			}
		}
	}
}

func TestP5_5Many(t *testing.T) {
	r := byChance(55)
	for range 20000 {
		l := make([]api.Truth, r.IntN(7))
		least, greatest := 2, 0
		for i := range l {
			l[i] = api.Truth(r.IntN(5) - 1)
			least, greatest = min(least, place(l[i])), max(greatest, place(l[i]))
		}
		if value.And(l...) != truths[least] || value.Or(l...) != truths[greatest] {
			t.Fatalf("And and Or of %v: %d, %d", l, value.And(l...), value.Or(l...))
		}
	}
	for at := range 1000 {
		l := slices.Repeat([]api.Truth{api.Yes}, 1000)
		l[at] = api.No
		if value.And(l...) != api.No {
			t.Fatalf("And of a thousand, the number %d is No", at)
		}
		for i := range l {
			l[i] = value.Not(l[i])
		}
		if value.Or(l...) != api.Yes {
			t.Fatalf("Or of a thousand, the number %d is Yes", at)
		}
	}
}

func TestP5_5ListsStayAsTheyAre(t *testing.T) {
	room := []api.Truth{api.Maybe, 7, api.Yes, api.No, -3}
	were := slices.Clone(room)
	value.And(room[:3]...)
	value.Or(room[:2]...)
	value.And(room[:0]...)
	if !slices.Equal(room, were) {
		t.Error("a list that was handed in has changed")
	}
}

func TestP5_9Algebra(t *testing.T) {
	and, or, not := value.And, value.Or, value.Not
	for _, a := range truths {
		if and(a, a) != a || or(a, a) != a || not(not(a)) != a || and(a) != a || or(a) != a {
			t.Errorf("laws of %d", a)
		}
		if and(a, api.Yes) != a || or(a, api.No) != a || and(a, api.No) != api.No || or(a, api.Yes) != api.Yes {
			t.Errorf("%d and the ends", a)
		}
		for _, b := range truths {
			if and(a, b) != and(b, a) || or(a, b) != or(b, a) {
				t.Errorf("any order: %d, %d", a, b)
			}
			if not(and(a, b)) != or(not(a), not(b)) || not(or(a, b)) != and(not(a), not(b)) {
				t.Errorf("Not of both: %d, %d", a, b)
			}
			if and(a, or(a, b)) != a || or(a, and(a, b)) != a {
				t.Errorf("each takes the other in: %d, %d", a, b)
			}
			for _, c := range truths {
				if and(a, b, c) != and(and(a, b), c) || and(a, b, c) != and(a, and(b, c)) || and(a, b, c) != and(c, a, b) {
					t.Errorf("And grouped: %d, %d, %d", a, b, c)
				}
				if or(a, b, c) != or(or(a, b), c) || or(a, b, c) != or(a, or(b, c)) || or(a, b, c) != or(c, a, b) {
					t.Errorf("Or grouped: %d, %d, %d", a, b, c)
				}
				if and(a, or(b, c)) != or(and(a, b), and(a, c)) || or(a, and(b, c)) != and(or(a, b), or(a, c)) {
					t.Errorf("through the other: %d, %d, %d", a, b, c)
				}
			}
		}
	}
	if and(api.Maybe, not(api.Maybe)) != api.Maybe || or(api.Maybe, not(api.Maybe)) != api.Maybe {
		t.Error("a truth and its Not")
	}
}

// TestExamples: those of the chapter on truths; the others stand with their promises.
func TestExamples(t *testing.T) {
	yes, maybe, no := api.Yes, api.Maybe, api.No
	if value.And(yes, maybe) != maybe || value.And(maybe, no) != no || value.Or(no, maybe) != maybe || value.Not(maybe) != maybe || value.Or(maybe, yes) != yes {
		t.Error("truths")
	}
}

package schema_test

import (
	"slices"
	"strings"
	"testing"

	"colonnade/api"
	"colonnade/schema"
)

func mustCheck(t *testing.T, l []api.Column, want api.Errno) {
	t.Helper()
	if e := schema.Check(l); e != want {
		t.Fatalf("Check of %d, %s = %d; want %d", len(l), brief(l), e, want)
	}
}

// checkAsPlain holds Check against the plain reading, and tells whether the columns may be.
func checkAsPlain(t *testing.T, l []api.Column) bool {
	t.Helper()
	if plainMayBe(l) {
		mustCheck(t, l, api.OK)
		return true
	}
	mustCheck(t, l, api.ErrSchema)
	return false
}

func TestP15_1Good(t *testing.T) {
	for _, l := range goodLists() {
		mustCheck(t, l, api.OK)
	}
}

func TestP15_1Bad(t *testing.T) {
	for _, l := range badLists() {
		mustCheck(t, l, api.ErrSchema)
	}
}

// TestP15_1EveryByte: every byte as a name, and at every place of names of three bytes.
func TestP15_1EveryByte(t *testing.T) {
	good := 0
	for c := range 256 {
		b := string([]byte{byte(c)})
		for _, name := range []string{b, b + "b", "a" + b, b + "bc", "a" + b + "c", "ab" + b, b + b, strings.Repeat("x", 63) + b, strings.Repeat("x", 64) + b, b + strings.Repeat("x", 63)} {
			for _, col := range list(whole(name), words(name), nullable(whole(name)), nullable(words(name))) {
				if checkAsPlain(t, list(col)) {
					good++
				}
			}
		}
	}
	if want := 4 * (5*52 + 4*63); good != want {
		t.Errorf("%d names are taken, not %d", good, want)
	}
}

// TestP15_1EveryLength: names of every length, so that the greatest and one more are among them.
func TestP15_1EveryLength(t *testing.T) {
	for n := range 400 {
		want := api.OK
		if n < 1 || n > 64 {
			want = api.ErrSchema
		}
		mustCheck(t, list(whole(strings.Repeat("q", n))), want)
		mustCheck(t, list(words("a"), words(strings.Repeat("q", n))), want)
	}
}

// TestP15_1EveryNumber: every number of columns, so that the greatest and one more are among them.
func TestP15_1EveryNumber(t *testing.T) {
	for n := range 600 {
		want := api.OK
		if n < 1 || n > 256 {
			want = api.ErrSchema
		}
		mustCheck(t, some(n, 4), want)
	}
	mustCheck(t, make([]api.Column, 1<<20), api.ErrSchema)
}

func TestP15_1EveryType(t *testing.T) {
	for kind := -300; kind <= 300; kind++ {
		want := api.ErrSchema
		if kind == api.Int || kind == api.Text {
			want = api.OK
		}
		c := api.Column{Name: "a", Type: kind}
		mustCheck(t, list(c), want)
		mustCheck(t, list(nullable(c)), want)
	}
}

// TestP15_1EveryTwo: any two names of 256 that are the same, wherever they stand, whatever else the columns are.
func TestP15_1EveryTwo(t *testing.T) {
	for _, l := range [][]api.Column{some(9, 4), some(256, 4)} {
		for i := range l {
			for j := range i {
				twice := slices.Clone(l)
				twice[i].Name = twice[j].Name
				mustCheck(t, twice, api.ErrSchema)
			}
		}
	}
}

// TestP15_1OneWrong: one column that may not be among many that may, at each place.
func TestP15_1OneWrong(t *testing.T) {
	for i := range 256 {
		for _, c := range list(whole("c-1"), whole(""), api.Column{Name: "z", Type: 3}, api.Column{Name: "z", Null: true}, api.Column{}) {
			l := some(256, 4)
			l[i] = c
			mustCheck(t, l, api.ErrSchema)
		}
		l := some(256, 4)
		l[i] = words("z")
		mustCheck(t, l, api.OK)
	}
}

// TestP15_1ByChance: short names out of few bytes, so that columns which may be and such which may not are both met.
func TestP15_1ByChance(t *testing.T) {
	r := byChance(2)
	good := 0
	for range 20000 {
		l := make([]api.Column, r.IntN(5))
		for i := range l {
			name := make([]byte, 1+r.IntN(2))
			for j := range name {
				name[j] = "abAB1_-"[r.IntN(7)]
			}
			l[i] = api.Column{Name: string(name), Type: 1 + r.IntN(12)*r.IntN(2)%4, Null: r.IntN(2) == 0}
		}
		if checkAsPlain(t, l) {
			good++
		}
	}
	if good < 1000 || good > 19000 {
		t.Errorf("%d lists of 20000 are taken", good)
	}
}

package atom_test

import (
	"slices"
	"testing"

	"colonnade/api"
	"colonnade/atom"
)

func mustNot(t *testing.T, p, want api.Pred, is bool) {
	t.Helper()
	if q, ok := atom.Not(p); ok != is || !samePred(q, want) {
		t.Fatalf("Not(%s) = %s, %v; want %s, %v", brief(p), brief(q), ok, brief(want), is)
	}
}

// TestP18_3Opposites: the three pairs of Ops, written out; all else stays, whatever it is.
func TestP18_3Opposites(t *testing.T) {
	for _, pair := range [][2]int{{api.Eq, api.Ne}, {api.Lt, api.Ge}, {api.Gt, api.Le}} {
		for _, name := range []string{"", "a", "9 é", longest('x')} {
			for _, v := range allValues() {
				mustNot(t, compared(name, pair[0], v), compared(name, pair[1], v), true)
				mustNot(t, compared(name, pair[1], v), compared(name, pair[0], v), true)
			}
		}
	}
}

// TestP18_3Twice: the opposite of the opposite is the atom itself, and the opposite is another one.
func TestP18_3Twice(t *testing.T) {
	for _, op := range ops() {
		for _, v := range allValues() {
			p := compared("a", op, v)
			q, is := atom.Not(p)
			if !is || q.Op == op {
				t.Fatalf("Not(%s) = %s, %v", brief(p), brief(q), is)
			}
			mustNot(t, q, p, true)
		}
	}
}

// TestP18_3None: of other Kinds, of Ops that are none, and with values in List or Kids there is no opposite.
func TestP18_3None(t *testing.T) {
	for _, op := range wrongOps() {
		for _, v := range someOfEach() {
			mustNot(t, compared("a", op, v), api.Pred{}, false)
		}
	}
	for _, kind := range slices.Concat(atomKinds()[1:], otherKinds()) {
		mustNot(t, api.Pred{Kind: kind}, api.Pred{}, false)
		for _, p := range coreOf("a") {
			p.Kind = kind
			mustNot(t, p, api.Pred{}, false)
			p.Kind, p.Op = kind, 3
			mustNot(t, p, api.Pred{}, false)
		}
	}
	for _, op := range ops() {
		p := compared("a", op, num(5))
		p.List = list(null)
		mustNot(t, p, api.Pred{}, false)
		p.List, p.Kids = nil, []api.Pred{{}}
		mustNot(t, p, api.Pred{}, false)
		p.List = nums(1, 2)
		mustNot(t, p, api.Pred{}, false)
		p.List, p.Kids = []api.Value{}, []api.Pred{}
		want, _ := plainNot(p)
		mustNot(t, p, want, true)
	}
}

func TestP18_3AsPlain(t *testing.T) {
	for _, p := range allPreds("a") {
		want, is := plainNot(p)
		mustNot(t, p, want, is)
	}
	r := byChance(4)
	for range 20000 {
		p := somePred(r, []string{"a", ""})
		want, is := plainNot(p)
		mustNot(t, p, want, is)
	}
}

package prune_test

import (
	"math/rand/v2"
	"testing"

	"colonnade/api"
	"colonnade/image"
)

// wildZone is of whatever numbers, bounds and filters.
func wildZone(r *rand.Rand, c api.Column, rows int) api.Zone {
	z := api.Zone{Nulls: oneOf(r, []int{0, 0, 1, rows, rows, rows - 1, -1})}
	if z.Nulls != rows || r.IntN(10) == 0 {
		z.Min, z.Max = num(int64(r.IntN(3))), num(int64(1+r.IntN(4)))
		if c.Type == api.Text {
			z.Min, z.Max = word("a"), word(oneOf(r, []string{"", "a", "b", "ba"}))
		}
	}
	if r.IntN(10) == 0 {
		z.Max = oneOf(r, notZero())
	}
	z.Bloom = make([]byte, oneOf(r, []int{0, 0, 0, 8, 8, 16, 7}))
	for i := range z.Bloom {
		z.Bloom[i] = byte(r.IntN(256) | r.IntN(256))
	}
	return z
}

// TestW0Atom: whatever the column, the record and the predicate.
func TestW0Atom(t *testing.T) {
	r := byChance(30)
	answered := 0
	for range 60000 {
		c := oneOf(r, fourColumns())
		if r.IntN(20) == 0 {
			c = oneOf(r, badColumns())
		}
		rows := oneOf(r, []int{0, 1, 1, 2, 2, 3, 3, -1, 1 << 24, 1<<24 + 1})
		p := wildPred(r, 2)
		if r.IntN(2) == 0 {
			p = someAtom(r, []api.Column{{Name: c.Name, Type: 1 + c.Type%2}, c}[r.IntN(2):])
		}
		z, o := wildZone(r, c, rows), oneOf(r, switches())
		if _, e := wantAtom(c, rows, z, p, o); e == api.OK {
			answered++
		}
		mustAtom(t, c, rows, z, p, o)
	}
	if answered < 5000 {
		t.Errorf("%d answers alone", answered)
	}
}

// TestW0: whatever the image, the row group and the predicate.
func TestW0(t *testing.T) {
	r := byChance(31)
	x := cut(t, someTable(r, fourColumns(), 9), []int{4, 0, 5}, loose(r))
	answered := 0
	for range 20000 {
		p, g := wildPred(r, 1+r.IntN(4)), r.IntN(7)-2
		switch {
		case r.IntN(20) == 0:
			mustRefuse(t, nil, g, p, api.ErrNil)
			mustRefuse(t, new(image.Image), g, p, api.ErrNil)
		case g < 0 || g > 2:
			mustRefuse(t, x.im, g, p, api.ErrArg)
		case !predMayBe(fourColumns(), p):
			mustRefuse(t, x.im, g, p, api.ErrQuery)
		default:
			answered++
			x.mustAnswer(t, g, p, oneOf(r, switches()))
		}
	}
	if answered < 1000 {
		t.Errorf("%d answers alone", answered)
	}
}

// TestW0Endless: predicates that have themselves among their kids, or one list so often that nothing could count it, are refused soon.
func TestW0Endless(t *testing.T) {
	x := small(t)
	for kind := api.PredAnd; kind <= api.PredNot; kind++ {
		for n := 1; n <= 3; n++ {
			p := api.Pred{Kind: kind, Kids: make([]api.Pred, n)}
			for i := range p.Kids {
				p.Kids[i] = p
			}
			mustRefuse(t, x.im, 0, p, api.ErrQuery)
		}
	}
	p := all
	for deep := 1; deep <= 63; deep++ {
		p = or(p, p)
		if deep > 11 {
			mustRefuse(t, x.im, 0, p, api.ErrQuery)
		}
	}
	mustRefuse(t, x.im, 0, wrapped(1<<16, all), api.ErrQuery)
}

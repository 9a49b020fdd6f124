package logic_test

import (
	"testing"

	"colonnade/api"
	"colonnade/image"
)

// TestW0: whatever the image, the row group and the predicate, Where answers, and beside an error nothing.
func TestW0(t *testing.T) {
	r := byChance(40)
	tab := someTable(r, fourColumns(), 9)
	x := mustImage(t, tab, fittingLayout(r, tab, 4, 0, 5))
	answered := 0
	for range 40000 {
		p, g := wildPred(r, 1+r.IntN(4)), r.IntN(7)-2
		switch {
		case r.IntN(20) == 0:
			mustRefuse(t, nil, g, p, api.ErrNil)
			mustRefuse(t, new(image.Image), g, p, api.ErrNil)
		case g < 0 || g > 2:
			mustRefuse(t, x.im, g, p, api.ErrArg)
		case !predMayBe(fourColumns(), p):
			mustRefuse(t, x.im, g, p, api.ErrQuery)
		default:
			answered++
			x.mustAnswer(t, g, p)
		}
	}
	if answered < 2000 {
		t.Errorf("%d answers alone", answered)
	}
}

// TestW0Endless: predicates that have themselves among their kids, or one list so often that nothing could count it, are refused soon.
func TestW0Endless(t *testing.T) {
	x := exampleTable(t)
	for kind := api.PredAnd; kind <= api.PredNot; kind++ {
		for n := 1; n <= 3; n++ {
			p := api.Pred{Kind: kind, Kids: make([]api.Pred, n)}
			for i := range p.Kids {
				p.Kids[i] = p
			}
			mustRefuse(t, x.im, 0, p, api.ErrQuery)
		}
	}
	p := all
	for deep := 1; deep <= 63; deep++ {
		p = or(p, p)
		if deep > 11 {
			mustRefuse(t, x.im, 0, p, api.ErrQuery)
		}
	}
	mustRefuse(t, x.im, 0, nots(1<<16-1, all), api.ErrQuery)
}

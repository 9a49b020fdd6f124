package logic

import (
	"slices"

	"colonnade/api"
	"colonnade/bits"
	"colonnade/image"
	"colonnade/ints"
	"colonnade/texts"
)

// An asking is of one row group, which has rows, and of predicates that may be for the image's columns.
type asking struct {
	image  *image.Image
	cols   []api.Column
	group  int
	opened *bits.Set // the numbers of the columns whose chunks were opened
}

func (a asking) ask(p api.Pred) (truths, api.Errno) {
	switch p.Kind {
	case api.PredAll:
		return allYes(a.image.Rows(a.group)), api.OK
	case api.PredAnd:
		return a.inTurn(p.Kids, rowByRow((*bits.Set).And), truths.areNo)
	case api.PredOr:
		return a.inTurn(p.Kids, rowByRow((*bits.Set).Or), truths.areYes)
	case api.PredNot:
		t, e := a.ask(p.Kids[0])
		return t.not(), e
	}
	return a.askAtom(p)
}

// inTurn asks kids one behind the other, and no further one, once what those asked came to is settled.
func (a asking) inTurn(kids []api.Pred, join func(t, u truths) truths, settled func(t truths) bool) (truths, api.Errno) {
	t, e := a.ask(kids[0])
	for _, kid := range kids[1:] {
		if e != api.OK || settled(t) {
			break
		}
		var u truths
		u, e = a.ask(kid)
		t = join(t, u)
	}
	return t, e
}

func (a asking) askAtom(p api.Pred) (truths, api.Errno) {
	at := slices.IndexFunc(a.cols, func(c api.Column) bool { return c.Name == p.Column })
	ch, _ := a.image.Chunk(a.group, at)
	a.opened.Put(at, true)
	test := ints.Test
	if a.cols[at].Type == api.Text {
		test = texts.Test
	}
	yes, unknown, e := test(ch, p)
	if e != api.OK {
		return truths{}, e
	}
	notNo, e := yes.Or(unknown)
	return truths{yes, notNo}, e
}

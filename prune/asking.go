package prune

import (
	"slices"

	"colonnade/api"
	"colonnade/image"
)

// An asking is of a predicate, in a row group that has a row.
type asking struct {
	image   *image.Image
	cols    []api.Column
	group   int
	opts    api.Options
	records []*record // by column; nil till an atom asks for it, for the image hands out a copy of the whole filter each time
}

// pred is the possible truths of a predicate that may be for the columns.
func (a asking) pred(p api.Pred) api.Truths {
	switch p.Kind {
	case api.PredAll:
		return api.Truths{Yes: true}
	case api.PredAnd:
		return a.together(And, p.Kids)
	case api.PredOr:
		return a.together(Or, p.Kids)
	case api.PredNot:
		return Not(a.pred(p.Kids[0]))
	}
	return a.record(p.Column).atom(p)
}

func (a asking) together(put func(a, b api.Truths) api.Truths, kids []api.Pred) api.Truths {
	t := a.pred(kids[0])
	for _, kid := range kids[1:] {
		t = put(t, a.pred(kid))
	}
	return t
}

// record is that of the column of a name.
func (a asking) record(name string) record {
	at := slices.IndexFunc(a.cols, func(c api.Column) bool { return c.Name == name })
	if a.records[at] == nil {
		z, _ := a.image.Zone(a.group, at)
		r := newRecord(a.cols[at], a.image.Rows(a.group), z, a.opts)
		a.records[at] = &r
	}
	return *a.records[at]
}

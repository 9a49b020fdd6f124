package query

import (
	"colonnade/api"
	"colonnade/atom"
	"colonnade/preds"
	"colonnade/schema"
	"colonnade/value"
)

// CheckPred: P23.2.
func CheckPred(cols []api.Column, p api.Pred) api.Errno {
	if e := schema.Check(cols); e != api.OK {
		return e
	}
	if !preds.May(cols, p) {
		return api.ErrQuery
	}
	return api.OK
}

// Truth: P23.3.
func Truth(cols []api.Column, p api.Pred, row []api.Value) (api.Truth, api.Errno) {
	if e := CheckPred(cols, p); e != api.OK {
		return 0, e
	}
	if !isRow(cols, row) {
		return 0, api.ErrValue
	}
	return rowOf{cols, row}.truth(p), api.OK
}

func isRow(cols []api.Column, row []api.Value) bool {
	if len(row) != len(cols) {
		return false
	}
	for i, v := range row {
		if !value.Fits(cols[i], v) {
			return false
		}
	}
	return true
}

// A rowOf is a row and the columns that it is of.
type rowOf struct {
	cols []api.Column
	row  []api.Value
}

// truth is asked of predicates that may be for the columns, and of none else.
func (r rowOf) truth(p api.Pred) api.Truth {
	switch p.Kind {
	case api.PredAll:
		return api.Yes
	case api.PredAnd:
		return value.And(r.truths(p.Kids)...)
	case api.PredOr:
		return value.Or(r.truths(p.Kids)...)
	case api.PredNot:
		return value.Not(r.truth(p.Kids[0]))
	}
	at, _ := schema.Find(r.cols, p.Column)
	return atom.Test(p, r.row[at])
}

func (r rowOf) truths(kids []api.Pred) []api.Truth {
	l := make([]api.Truth, len(kids))
	for i, kid := range kids {
		l[i] = r.truth(kid)
	}
	return l
}

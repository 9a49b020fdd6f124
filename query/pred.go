package query

import (
	"colonnade/api"
	"colonnade/atom"
	"colonnade/schema"
	"colonnade/value"
)

// CheckPred: P23.2.
func CheckPred(cols []api.Column, p api.Pred) api.Errno {
	if e := schema.Check(cols); e != api.OK {
		return e
	}
	if !predMayBe(cols, p) {
		return api.ErrQuery
	}
	return api.OK
}

// Truth: P23.3.
func Truth(cols []api.Column, p api.Pred, row []api.Value) (api.Truth, api.Errno) {
	if e := CheckPred(cols, p); e != api.OK {
		return 0, e
	}
	if !isRow(cols, row) {
		return 0, api.ErrValue
	}
	return rowOf{cols, row}.truth(p), api.OK
}

func predMayBe(cols []api.Column, p api.Pred) bool {
	l := look{cols: cols, left: api.MaxPreds}
	return l.mayBe(p, api.MaxNest)
}

// A look goes through a predicate and gives up at the first fault, so that not even one that has itself among its kids is gone through for long.
type look struct {
	cols []api.Column
	left int // how many predicates more there may be
}

// mayBe takes how deep a predicate may stand at most, itself included.
func (l *look) mayBe(p api.Pred, deep int) bool {
	if l.left == 0 || deep == 0 {
		return false
	}
	l.left--
	switch p.Kind {
	case api.PredAll:
		return kidsAlone(p) && len(p.Kids) == 0
	case api.PredAnd, api.PredOr:
		return kidsAlone(p) && len(p.Kids) >= 2 && l.allMayBe(p.Kids, deep-1)
	case api.PredNot:
		return kidsAlone(p) && len(p.Kids) == 1 && l.allMayBe(p.Kids, deep-1)
	}
	return atom.Check(l.cols, p) == api.OK
}

func (l *look) allMayBe(kids []api.Pred, deep int) bool {
	for _, kid := range kids {
		if !l.mayBe(kid, deep) {
			return false
		}
	}
	return true
}

// kidsAlone is whether all fields are zero but Kind and Kids. Layer 5 tells which Null may be: a zero with a sign is not seen by ==.
func kidsAlone(p api.Pred) bool {
	return p.Column == "" && p.Op == 0 && p.Value.Kind == api.Null && value.May(p.Value) && len(p.List) == 0
}

func isRow(cols []api.Column, row []api.Value) bool {
	if len(row) != len(cols) {
		return false
	}
	for i, v := range row {
		if !value.Fits(cols[i], v) {
			return false
		}
	}
	return true
}

// A rowOf is a row and the columns that it is of.
type rowOf struct {
	cols []api.Column
	row  []api.Value
}

// truth is asked of predicates that may be for the columns, and of none else.
func (r rowOf) truth(p api.Pred) api.Truth {
	switch p.Kind {
	case api.PredAll:
		return api.Yes
	case api.PredAnd:
		return value.And(r.truths(p.Kids)...)
	case api.PredOr:
		return value.Or(r.truths(p.Kids)...)
	case api.PredNot:
		return value.Not(r.truth(p.Kids[0]))
	}
	at, _ := schema.Find(r.cols, p.Column)
	return atom.Test(p, r.row[at])
}

func (r rowOf) truths(kids []api.Pred) []api.Truth {
	l := make([]api.Truth, len(kids))
	for i, kid := range kids {
		l[i] = r.truth(kid)
	}
	return l
}

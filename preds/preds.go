// Package preds says which predicates may be for some columns, as the page words it. It is no layer: those that do not call one another, and are handed predicates, ask it here.
package preds

import (
	"colonnade/api"
	"colonnade/atom"
	"colonnade/value"
)

// May is whether a predicate may be for columns that may be.
func May(cols []api.Column, p api.Pred) bool {
	l := look{cols: cols, left: api.MaxPreds}
	return l.may(p, api.MaxNest)
}

// A look goes through a predicate and gives up at the first fault, so that not even one that has itself among its kids is gone through for long.
type look struct {
	cols []api.Column
	left int // how many predicates more there may be
}

// may takes how deep a predicate may stand at most, itself included.
func (l *look) may(p api.Pred, deep int) bool {
	if l.left == 0 || deep == 0 {
		return false
	}
	l.left--
	switch p.Kind {
	case api.PredAll:
		return kidsAlone(p) && len(p.Kids) == 0
	case api.PredAnd, api.PredOr:
		return kidsAlone(p) && len(p.Kids) >= 2 && l.allMay(p.Kids, deep-1)
	case api.PredNot:
		return kidsAlone(p) && len(p.Kids) == 1 && l.allMay(p.Kids, deep-1)
	}
	return atom.Check(l.cols, p) == api.OK
}

func (l *look) allMay(kids []api.Pred, deep int) bool {
	for _, kid := range kids {
		if !l.may(kid, deep) {
			return false
		}
	}
	return true
}

// kidsAlone is whether all fields are zero but Kind and Kids. Layer 5 tells which Null may be: a zero with a sign is not seen by ==.
func kidsAlone(p api.Pred) bool {
	return p.Column == "" && p.Op == 0 && p.Value.Kind == api.Null && value.May(p.Value) && len(p.List) == 0
}

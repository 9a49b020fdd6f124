package lang

import (
	"colonnade/api"
	"colonnade/value"
)

// A lot is a list of kids, by where it stands.
type lot struct {
	first *api.Pred
	n     int
}

// A look goes through predicates, and through each lot just once: one that stands at several places, each time within its like, would else be gone through very often.
type look struct {
	heights map[lot]int // how deep predicates stand in the lots that were gone through
	odd     bool        // whether one was met that can't be told
}

// lookAt is whether predicates stand too deep within one another, and, if not, whether one of them can't be told.
func lookAt(p api.Pred) (deep, odd bool) {
	l := look{heights: map[lot]int{}}
	deep = l.height(p, api.MaxNest) > api.MaxNest
	return deep, l.odd
}

// height is how deep predicates stand within one another. It looks no further than at the first that stands deeper than most, since there may be no end.
func (l *look) height(p api.Pred, most int) int {
	if most == 0 {
		return 1
	}
	l.odd = l.odd || !canBeTold(p)
	return 1 + l.heightOf(p.Kids, most-1)
}

// heightOf is the greatest height of a lot.
func (l *look) heightOf(kids []api.Pred, most int) int {
	if len(kids) == 0 {
		return 0
	}
	at := lot{&kids[0], len(kids)}
	if height, met := l.heights[at]; met {
		return height
	}
	greatest := 0
	for _, kid := range kids {
		greatest = max(greatest, l.height(kid, most))
	}
	l.heights[at] = greatest
	return greatest
}

// canBeTold is of a predicate by itself, whatever its kids are. What its Kind says is taken out of it, and what is left must be zero.
func canBeTold(p api.Pred) bool {
	said := false
	switch p.Kind {
	case api.PredAll:
		said = true
	case api.PredCompare:
		said = isName(p.Column) && p.Op >= api.Eq && p.Op <= api.Ge && isSaid(p.Value)
		p.Column, p.Op, p.Value = "", 0, api.Value{}
	case api.PredIn:
		said = isName(p.Column) && areSaid(p.List)
		p.Column, p.List = "", nil
	case api.PredBetween:
		said = isName(p.Column) && len(p.List) == 2 && areSaid(p.List)
		p.Column, p.List = "", nil
	case api.PredNull:
		said = isName(p.Column)
		p.Column = ""
	case api.PredBegins:
		said = isName(p.Column) && p.Value.Kind == api.Text && isSaid(p.Value)
		p.Column, p.Value = "", api.Value{}
	case api.PredAnd, api.PredOr:
		said = len(p.Kids) >= 2
		p.Kids = nil
	case api.PredNot:
		said = len(p.Kids) == 1
		p.Kids = nil
	}
	return said && isZero(p)
}

// isZero leaves out the Kind. Layer 5 tells whether a Null is zero: a Real with a sign is not seen by ==.
func isZero(p api.Pred) bool {
	return p.Column == "" && p.Op == 0 && p.Value.Kind == api.Null && value.May(p.Value) && len(p.List) == 0 && len(p.Kids) == 0
}

// isSaid is whether a number or a text says v.
func isSaid(v api.Value) bool {
	return (v.Kind == api.Int || v.Kind == api.Text) && value.May(v)
}

func areSaid(l []api.Value) bool {
	for _, v := range l {
		if !isSaid(v) {
			return false
		}
	}
	return true
}

// restCanBeTold is of all of a query but Where.
func restCanBeTold(q api.Query) bool {
	if len(q.Items) == 0 || q.Limit < noLimit {
		return false
	}
	for _, item := range q.Items {
		if !itemCanBeTold(item) {
			return false
		}
	}
	for _, name := range q.Group {
		if !isName(name) {
			return false
		}
	}
	for _, key := range q.Order {
		if key.Item < 0 || key.Item >= api.MaxItems {
			return false
		}
	}
	return true
}

func itemCanBeTold(item api.Item) bool {
	if item.Kind == api.ItemRows {
		return item.Column == ""
	}
	return item.Kind >= api.ItemColumn && item.Kind <= api.ItemMean && isName(item.Column)
}

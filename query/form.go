package query

import (
	"colonnade/api"
	"colonnade/atom"
)

// Plain: P23.4.
func Plain(p api.Pred) api.Pred {
	switch {
	case isJoin(p.Kind):
		l := lot{kind: p.Kind}
		each(p.Kids, l.addPlain)
		return l.pred()
	case turnsOne(p):
		return turned(p.Kids[0])
	}
	return copied(p)
}

func turned(p api.Pred) api.Pred {
	switch {
	case isJoin(p.Kind):
		l := lot{kind: otherJoin(p.Kind)}
		each(p.Kids, l.addTurned)
		return l.pred()
	case turnsOne(p):
		return Plain(p.Kids[0])
	}
	if opposite, is := atom.Not(p); is {
		return opposite
	}
	return api.Pred{Kind: api.PredNot, Kids: []api.Pred{copied(p)}}
}

// A lot is what stands side by side in a form of one Kind. What is of that Kind itself is never made on its own: its kids are added at once, so that each is laid down a single time, however deep it stood.
type lot struct {
	kind int
	kids []api.Pred
}

func (l *lot) addPlain(p api.Pred) {
	switch {
	case p.Kind == l.kind:
		each(p.Kids, l.addPlain)
	case turnsOne(p):
		l.addTurned(p.Kids[0])
	default:
		l.kids = append(l.kids, Plain(p))
	}
}

func (l *lot) addTurned(p api.Pred) {
	switch {
	case p.Kind == otherJoin(l.kind):
		each(p.Kids, l.addTurned)
	case turnsOne(p):
		l.addPlain(p.Kids[0])
	default:
		l.kids = append(l.kids, turned(p))
	}
}

func (l *lot) pred() api.Pred { return api.Pred{Kind: l.kind, Kids: l.kids} }

// each takes how a kid's form is made and added.
func each(kids []api.Pred, add func(api.Pred)) {
	for _, kid := range kids {
		add(kid)
	}
}

func isJoin(kind int) bool { return kind == api.PredAnd || kind == api.PredOr }

// otherJoin is the other one of PredAnd and PredOr.
func otherJoin(kind int) int {
	if kind == api.PredAnd {
		return api.PredOr
	}
	return api.PredAnd
}

// turnsOne leaves out a PredNot that turns none or several, which has no form but itself.
func turnsOne(p api.Pred) bool { return p.Kind == api.PredNot && len(p.Kids) == 1 }

// copied is the same predicate whose lists, at whichever depth, are no other's.
func copied(p api.Pred) api.Pred {
	p.List = append([]api.Value(nil), p.List...)
	var kids []api.Pred
	for _, kid := range p.Kids {
		kids = append(kids, copied(kid))
	}
	p.Kids = kids
	return p
}

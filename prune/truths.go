package prune

import "colonnade/api"

// And: P26.1.
func And(a, b api.Truths) api.Truths {
	return api.Truths{
		No:    a.No && some(b) || b.No && some(a),
		Maybe: a.Maybe && (b.Maybe || b.Yes) || b.Maybe && a.Yes,
		Yes:   a.Yes && b.Yes,
	}
}

// Or: P26.1. The greatest of two truths is the not of the least of their nots.
func Or(a, b api.Truths) api.Truths { return Not(And(Not(a), Not(b))) }

// Not: P26.1.
func Not(a api.Truths) api.Truths { return api.Truths{No: a.Yes, Yes: a.No, Maybe: a.Maybe} }

// some is whether there is a truth in a set at all.
func some(a api.Truths) bool { return a != api.Truths{} }

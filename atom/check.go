package atom

import (
	"slices"

	"colonnade/api"
	"colonnade/schema"
	"colonnade/value"
)

// Check: P18.1.
func Check(cols []api.Column, p api.Pred) api.Errno {
	at, found := schema.Find(cols, p.Column)
	switch {
	case !isAtom(p.Kind) || p.Kind == api.PredCompare && !isOp(p.Op):
		return api.ErrOp
	case p.Kind == api.PredBegins && found && cols[at].Type != api.Text:
		return api.ErrOp
	case !restIsZero(p) || p.Kind == api.PredBetween && len(p.List) != 2:
		return api.ErrArg
	case !found:
		return api.ErrColumn
	case p.Kind == api.PredIn && len(p.List) > api.MaxList:
		return api.ErrLarge
	case !allOfType(cols[at].Type, valuesOf(p)):
		return api.ErrValue
	}
	return api.OK
}

// counts is which fields count for an atom of that Kind.
func counts(kind int) (op, single, list bool) {
	switch kind {
	case api.PredCompare:
		return true, true, false
	case api.PredIn, api.PredBetween:
		return false, false, true
	case api.PredBegins:
		return false, true, false
	}
	return false, false, false
}

// restIsZero is whether the fields that do not count are zero. Kids never count.
func restIsZero(p api.Pred) bool {
	op, single, list := counts(p.Kind)
	return (op || p.Op == 0) && (single || isNone(p.Value)) && (list || len(p.List) == 0) && len(p.Kids) == 0
}

// isNone leaves it to layer 5 which Null may be: a zero with a sign is not seen by ==.
func isNone(v api.Value) bool { return v.Kind == api.Null && value.May(v) }

// valuesOf are an atom's values.
func valuesOf(p api.Pred) []api.Value {
	_, single, list := counts(p.Kind)
	switch {
	case single:
		return []api.Value{p.Value}
	case list:
		return p.List
	}
	return nil
}

// allOfType asks for Null on its own: no column is of that type that may be, but any may be handed in.
func allOfType(kind int, l []api.Value) bool {
	return !slices.ContainsFunc(l, func(v api.Value) bool {
		return v.Kind == api.Null || v.Kind != kind || !value.May(v)
	})
}

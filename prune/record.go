package prune

import (
	"slices"
	"strings"

	"colonnade/api"
	"colonnade/bloom"
	"colonnade/value"
)

// A record is what may be believed of the values of a chunk.
type record struct {
	rows          int
	nulls, others bool // whether there can be nulls, and values beside them
	zones         bool // whether least and greatest count; both are there then, if there are others
	least         api.Value
	greatest      api.Value
	canBe         func(v api.Value) bool // whether a value that is not Null can be there
}

func newRecord(col api.Column, rows int, z api.Zone, opts api.Options) record {
	r := record{rows: rows, nulls: col.Null, others: true, zones: opts.Zones, least: z.Min, greatest: z.Max}
	if opts.Zones {
		r.nulls, r.others = z.Nulls > 0, z.Nulls < rows
	}
	r.canBe = func(v api.Value) bool {
		if opts.Zones && (value.Compare(v, z.Min) < 0 || value.Compare(v, z.Max) > 0) {
			return false
		}
		return !opts.Blooms || bloom.Has(z.Bloom, v) // by no bytes layer 13 rules nothing out
	}
	return r
}

// atom is the possible truths of an atom.
func (r record) atom(p api.Pred) api.Truths {
	switch {
	case r.rows == 0:
		return api.Truths{}
	case p.Kind == api.PredNull:
		return api.Truths{Yes: r.nulls, No: r.others}
	case !r.others:
		return api.Truths{Maybe: r.nulls}
	}
	yes, no := r.ofOthers(p)
	return api.Truths{Yes: yes, No: no, Maybe: r.nulls}
}

// ofOthers is whether an atom can be Yes, and whether it can be No, of a value that is not Null.
func (r record) ofOthers(p api.Pred) (yes, no bool) {
	switch p.Kind {
	case api.PredIn:
		return r.among(p.List)
	case api.PredBetween:
		return r.between(p.List[0], p.List[1])
	case api.PredBegins:
		return r.begins(p.Value)
	}
	return r.compared(p.Op, p.Value)
}

func (r record) among(l []api.Value) (yes, no bool) {
	only := r.zones && r.least == r.greatest && slices.Contains(l, r.least)
	return slices.ContainsFunc(l, r.canBe), !only
}

// compared is turned round for Ne, Gt and Ge, which say No just where Eq, Le and Lt say Yes.
func (r record) compared(op int, v api.Value) (yes, no bool) {
	switch op {
	case api.Eq:
		yes, no = r.among([]api.Value{v})
	case api.Ne:
		no, yes = r.among([]api.Value{v})
	case api.Lt:
		yes, no = r.ahead(v)
	case api.Le:
		yes, no = r.notBehind(v)
	case api.Gt:
		no, yes = r.notBehind(v)
	case api.Ge:
		no, yes = r.ahead(v)
	}
	return yes, no
}

func (r record) ahead(v api.Value) (yes, no bool) {
	return !r.zones || value.Compare(r.least, v) < 0, !r.zones || value.Compare(r.greatest, v) >= 0
}

func (r record) notBehind(v api.Value) (yes, no bool) {
	return !r.zones || value.Compare(r.least, v) <= 0, !r.zones || value.Compare(r.greatest, v) > 0
}

func (r record) between(a, b api.Value) (yes, no bool) {
	yes, no = value.Compare(a, b) <= 0, true
	if r.zones {
		yes = yes && value.Compare(r.least, b) <= 0 && value.Compare(r.greatest, a) >= 0
		no = value.Compare(r.least, a) < 0 || value.Compare(r.greatest, b) > 0
	}
	return yes, no
}

func (r record) begins(t api.Value) (yes, no bool) {
	if !r.zones {
		return true, true
	}
	first, last := strings.HasPrefix(r.least.Text, t.Text), strings.HasPrefix(r.greatest.Text, t.Text)
	yes = value.Compare(r.greatest, t) >= 0 && (first || value.Compare(r.least, t) <= 0)
	return yes, !first || !last
}

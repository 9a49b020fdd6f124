package lang

import (
	"math"
	"slices"
	"strings"

	"colonnade/api"
	"colonnade/value"
)

// A fault is what a reader gives up with.
type fault struct {
	at int
	e  api.Errno
}

// A reader goes down through the rules of the language, each of which takes the tokens that it is made of.
type reader struct {
	text string
	now  token // the next one that is not taken
}

func open(text string) *reader { return &reader{text, scan(text, 0)} }

func (r *reader) step() { r.now = scan(r.text, r.now.at+len(r.now.text)) }

// refuse gives up at the token whose turn it is.
func (r *reader) refuse(e api.Errno) {
	if r.now.sort == noToken {
		e = api.ErrToken
	}
	panic(fault{r.now.at, e})
}

// takes is whether this word or sign stands next, which is taken then.
func (r *reader) takes(text string) bool {
	if r.now.sort != itself || r.now.text != text {
		return false
	}
	r.step()
	return true
}

func (r *reader) want(text string) {
	if !r.takes(text) {
		r.refuse(api.ErrWord)
	}
}

func (r *reader) query() api.Query {
	q := api.Query{Limit: noLimit}
	r.want("select")
	q.Items = parted(r, r.item)
	if r.takes("where") {
		q.Where = r.or()
	}
	if r.takes("group") {
		r.want("by")
		q.Group = parted(r, r.name)
	}
	if r.takes("order") {
		r.want("by")
		q.Order = parted(r, r.key)
	}
	if r.takes("limit") {
		q.Limit = r.number(0, math.MaxInt)
	}
	if r.now.sort != theEnd {
		r.refuse(api.ErrTrail)
	}
	return q
}

// parted is one or more of a rule, with commas between them.
func parted[T any](r *reader, one func() T) []T {
	out := []T{one()}
	for r.takes(",") {
		out = append(out, one())
	}
	return out
}

// item looks at a name as it stands there: with its backquotes, if it has them, it is none that says something else.
func (r *reader) item() api.Item {
	kind := slices.Index(folds(), r.now.text)
	name := r.name()
	if kind < 0 || !r.takes("(") {
		return api.Item{Kind: api.ItemColumn, Column: name}
	}
	item := api.Item{Kind: kind}
	if kind != api.ItemRows {
		item.Column = r.name()
	}
	r.want(")")
	return item
}

func (r *reader) key() api.Key {
	at := r.number(1, api.MaxItems)
	return api.Key{Item: at - 1, Down: r.takes("down")}
}

func (r *reader) or() api.Pred { return r.joined(api.PredOr, "or", r.and) }

func (r *reader) and() api.Pred { return r.joined(api.PredAnd, "and", r.unary) }

func (r *reader) joined(kind int, word string, one func() api.Pred) api.Pred {
	kids := []api.Pred{one()}
	for r.takes(word) {
		kids = append(kids, one())
	}
	if len(kids) == 1 {
		return kids[0]
	}
	return api.Pred{Kind: kind, Kids: kids}
}

func (r *reader) unary() api.Pred {
	switch {
	case r.takes("not"):
		return api.Pred{Kind: api.PredNot, Kids: []api.Pred{r.unary()}}
	case r.takes("("):
		p := r.or()
		r.want(")")
		return p
	case r.takes("all"):
		return api.Pred{Kind: api.PredAll}
	}
	return r.atom()
}

func (r *reader) atom() api.Pred {
	p := api.Pred{Column: r.name()}
	switch {
	case r.takes("in"):
		p.Kind, p.List = api.PredIn, r.list()
	case r.takes("between"):
		p.Kind, p.List = api.PredBetween, r.bounds()
	case r.takes("is"):
		r.want("null")
		p.Kind = api.PredNull
	case r.takes("begins"):
		p.Kind, p.Value = api.PredBegins, r.value(someText)
	default:
		p.Kind, p.Op, p.Value = api.PredCompare, r.sign(), r.either()
	}
	return p
}

func (r *reader) list() []api.Value {
	r.want("(")
	if r.takes(")") {
		return nil
	}
	out := parted(r, r.either)
	r.want(")")
	return out
}

func (r *reader) bounds() []api.Value {
	low := r.either()
	r.want("and")
	return []api.Value{low, r.either()}
}

// sign is the Op of the comparison whose sign stands next.
func (r *reader) sign() int {
	op := slices.Index(signs(), r.now.text)
	if r.now.sort != itself || op < 0 {
		r.refuse(api.ErrWord)
	}
	r.step()
	return op
}

// name is a copy, because a piece of the text would keep all of it.
func (r *reader) name() string {
	name := r.now.text
	switch r.now.sort {
	case bareName:
	case quotedName:
		name = name[1 : len(name)-1]
	default:
		r.refuse(api.ErrWord)
	}
	r.step()
	return strings.Clone(name)
}

// either is a value of whichever sort.
func (r *reader) either() api.Value { return r.value(someNumber, someText) }

func (r *reader) value(sorts ...sort) api.Value {
	v := r.said(sorts...)
	r.step()
	return v
}

func (r *reader) number(least, most int) int {
	v := r.said(someNumber)
	if v.Int < int64(least) || v.Int > int64(most) {
		r.refuse(api.ErrValue)
	}
	r.step()
	return int(v.Int)
}

// said is what the next token says, which is of one of these sorts and not taken yet.
func (r *reader) said(sorts ...sort) api.Value {
	if !slices.Contains(sorts, r.now.sort) {
		r.refuse(api.ErrWord)
	}
	v, e := value.Read(r.now.text)
	if e != api.OK {
		r.refuse(api.ErrValue)
	}
	return v
}

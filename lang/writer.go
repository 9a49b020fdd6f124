package lang

import (
	"strconv"

	"colonnade/api"
	"colonnade/value"
)

// A writer lays tokens down, one behind the other.
type writer struct {
	out []byte
}

// full is whether there are more bytes than a text may have, so that there is no use in going on.
func (w *writer) full() bool { return len(w.out) > api.MaxQuery }

// put lays down tokens, each with what stands ahead of it.
func (w *writer) put(tokens ...string) {
	for _, token := range tokens {
		if w.wantsBlank(token) {
			w.glue(" ")
		}
		w.glue(token)
	}
}

// wantsBlank asks for the last byte alone, because no other token ends as an opening parenthesis does.
func (w *writer) wantsBlank(token string) bool {
	n := len(w.out)
	return n > 0 && w.out[n-1] != '(' && token != "," && token != ")"
}

// glue lays down what has no blank ahead of it.
func (w *writer) glue(s string) { w.out = append(w.out, s...) }

func (w *writer) query(q api.Query) {
	w.put("select")
	between(w, ",", q.Items, w.item)
	if q.Where.Kind != api.PredAll {
		w.put("where")
		w.pred(q.Where)
	}
	if len(q.Group) > 0 {
		w.put("group", "by")
		between(w, ",", q.Group, w.name)
	}
	if len(q.Order) > 0 {
		w.put("order", "by")
		between(w, ",", q.Order, w.key)
	}
	if q.Limit != noLimit {
		w.put("limit", strconv.Itoa(q.Limit))
	}
}

// between tells one behind the other, with a token between two of them, until the writer is full: there may be very many.
func between[T any](w *writer, token string, l []T, tell func(T)) {
	for i, one := range l {
		if w.full() {
			return
		}
		if i > 0 {
			w.put(token)
		}
		tell(one)
	}
}

func (w *writer) item(item api.Item) {
	if item.Kind == api.ItemColumn {
		w.name(item.Column)
		return
	}
	w.put(folds()[item.Kind])
	w.glue("(")
	if item.Kind != api.ItemRows {
		w.name(item.Column)
	}
	w.put(")")
}

func (w *writer) name(name string) {
	if isWord(name) {
		name = "`" + name + "`"
	}
	w.put(name)
}

func (w *writer) key(key api.Key) {
	w.put(strconv.Itoa(key.Item + 1))
	if key.Down {
		w.put("down")
	}
}

func (w *writer) pred(p api.Pred) {
	switch p.Kind {
	case api.PredAll:
		w.put("all")
	case api.PredAnd:
		between(w, "and", p.Kids, w.kidOf(p.Kind))
	case api.PredOr:
		between(w, "or", p.Kids, w.kidOf(p.Kind))
	case api.PredNot:
		w.put("not")
		w.kidOf(p.Kind)(p.Kids[0])
	default:
		w.name(p.Column)
		w.says(p)
	}
}

// kidOf is how a kid is told of a predicate of that Kind.
func (w *writer) kidOf(kind int) func(api.Pred) {
	return func(kid api.Pred) {
		if kid.Kind != api.PredOr && (kid.Kind != api.PredAnd || kind == api.PredOr) {
			w.pred(kid)
			return
		}
		w.put("(")
		w.pred(kid)
		w.put(")")
	}
}

// says tells what an atom says of its column.
func (w *writer) says(p api.Pred) {
	switch p.Kind {
	case api.PredCompare:
		w.put(signs()[p.Op])
		w.value(p.Value)
	case api.PredIn:
		w.put("in", "(")
		between(w, ",", p.List, w.value)
		w.put(")")
	case api.PredBetween:
		w.put("between")
		between(w, "and", p.List, w.value)
	case api.PredNull:
		w.put("is", "null")
	case api.PredBegins:
		w.put("begins")
		w.value(p.Value)
	}
}

func (w *writer) value(v api.Value) { w.put(value.Print(v)) }

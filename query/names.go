package query

import "colonnade/api"

// Needs: P23.5.
func Needs(cols []api.Column, q api.Query) []int {
	if Check(cols, q) != api.OK {
		return nil
	}
	named := namedBy(q)
	var out []int
	for i, c := range cols {
		if _, is := named[c.Name]; is {
			out = append(out, i)
		}
	}
	return out
}

// Names: P23.6.
func Names(q api.Query) []string {
	out := make([]string, len(q.Items))
	for i, item := range q.Items {
		out[i] = nameOf(item)
	}
	return out
}

// A nameSet is names of columns, each once. The empty text, which stands where no column is named, may be among them: no column has it.
type nameSet map[string]struct{}

func (s nameSet) add(name string) { s[name] = struct{}{} }

func (s nameSet) addPred(p api.Pred) {
	s.add(p.Column)
	each(p.Kids, s.addPred)
}

func namedBy(q api.Query) nameSet {
	named := nameSet{}
	for _, item := range q.Items {
		named.add(item.Column)
	}
	for _, name := range q.Group {
		named.add(name)
	}
	named.addPred(q.Where)
	return named
}

func nameOf(item api.Item) string {
	switch item.Kind {
	case api.ItemColumn:
		return item.Column
	case api.ItemRows:
		return "rows"
	}
	word := wordOf(item.Kind)
	if word == "" {
		return ""
	}
	return word + "(" + item.Column + ")"
}

// wordOf is the word of an item that tells something of a column's values, and none of any other.
func wordOf(kind int) string {
	switch kind {
	case api.ItemCount:
		return "count"
	case api.ItemSum:
		return "sum"
	case api.ItemMin:
		return "min"
	case api.ItemMax:
		return "max"
	case api.ItemMean:
		return "mean"
	}
	return ""
}

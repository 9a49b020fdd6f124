package value

import "colonnade/api"

// And: P5.5.
func And(l ...api.Truth) api.Truth {
	least := api.Yes
	for _, t := range l {
		switch t {
		case api.No:
			return api.No
		case api.Yes:
		default:
			least = api.Maybe
		}
	}
	return least
}

// Or: P5.5.
func Or(l ...api.Truth) api.Truth {
	greatest := api.No
	for _, t := range l {
		switch t {
		case api.Yes:
			return api.Yes
		case api.No:
		default:
			greatest = api.Maybe
		}
	}
	return greatest
}

// Not: P5.5.
func Not(t api.Truth) api.Truth {
	switch t {
	case api.No:
		return api.Yes
	case api.Yes:
		return api.No
	}
	return api.Maybe
}

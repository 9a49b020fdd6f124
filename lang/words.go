package lang

import "colonnade/api"

// isWord is whether s is one of the words of the language.
func isWord(s string) bool {
	switch s {
	case "select", "where", "group", "by", "order", "limit", "and", "or", "not", "in", "between", "is", "null", "begins", "all", "down":
		return true
	}
	return false
}

// isName is whether s is a name, be it a word of the language or not.
func isName(s string) bool {
	return s != "" && len(s) <= api.MaxName && isLetter(s[0]) && wordSize(s) == len(s)
}

// wordSize is with how many letters, digits and underscores s begins.
func wordSize(s string) int {
	for i := range len(s) {
		if !isLetter(s[i]) && !isDigit(s[i]) && s[i] != '_' {
			return i
		}
	}
	return len(s)
}

func isLetter(b byte) bool { return b >= 'a' && b <= 'z' || b >= 'A' && b <= 'Z' }

func isDigit(b byte) bool { return b >= '0' && b <= '9' }

// signs are those of the comparisons, each at its Op.
func signs() []string {
	return []string{api.Eq: "=", api.Ne: "<>", api.Lt: "<", api.Le: "<=", api.Gt: ">", api.Ge: ">="}
}

// folds are the names that say something else with a parenthesis behind them, each at its item's Kind.
func folds() []string {
	return []string{api.ItemRows: "rows", api.ItemCount: "count", api.ItemSum: "sum", api.ItemMin: "min", api.ItemMax: "max", api.ItemMean: "mean"}
}

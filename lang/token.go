package lang

import "strings"

// sort is what a token is.
type sort int

const (
	noToken    sort = iota
	theEnd          // of the text
	itself          // a word of the language or a sign
	bareName        // a name without backquotes
	quotedName      // a name in backquotes
	someNumber
	someText
)

const (
	backquote = '`'
	backslash = '\\'
	quote     = '"'
)

// A token is what stands at a place of a text.
type token struct {
	sort sort
	at   int
	text string
}

// scan is the next token from a place on. Where there is none, that is told by its sort, so that it is a fault only when it is its turn.
func scan(text string, from int) token {
	rest := strings.TrimLeft(text[from:], " \t\n")
	s, size := first(rest)
	return token{s, len(text) - len(rest), rest[:size]}
}

// first is the sort of the token that stands at the beginning of rest, and how many bytes it has.
func first(rest string) (sort, int) {
	switch {
	case rest == "":
		return theEnd, 0
	case isLetter(rest[0]):
		return firstWord(rest)
	case rest[0] == backquote:
		return firstQuoted(rest)
	case rest[0] == quote:
		return firstText(rest)
	case rest[0] == '-' || isDigit(rest[0]):
		return firstNumber(rest)
	}
	return firstSign(rest)
}

func firstWord(rest string) (sort, int) {
	size := wordSize(rest)
	switch word := rest[:size]; {
	case isWord(word):
		return itself, size
	case isName(word):
		return bareName, size
	}
	return noToken, 0
}

func firstQuoted(rest string) (sort, int) {
	size := strings.IndexByte(rest[1:], backquote)
	if size < 0 || !isName(rest[1:1+size]) {
		return noToken, 0
	}
	return quotedName, size + 2
}

func firstText(rest string) (sort, int) {
	for i := 1; i < len(rest); i++ {
		switch rest[i] {
		case backslash:
			i++
		case quote:
			return someText, i + 1
		}
	}
	return noToken, 0
}

func firstNumber(rest string) (sort, int) {
	size := 1
	for size < len(rest) && isDigit(rest[size]) {
		size++
	}
	if !isDigit(rest[size-1]) {
		return noToken, 0
	}
	return someNumber, size
}

func firstSign(rest string) (sort, int) {
	for _, sign := range []string{"<>", "<=", ">=", "<", ">", "=", ",", "(", ")"} {
		if strings.HasPrefix(rest, sign) {
			return itself, len(sign)
		}
	}
	return noToken, 0
}

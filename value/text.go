package value

import (
	"strconv"
	"strings"

	"colonnade/api"
)

const (
	quote     = '"'
	backslash = '\\'
	hexDigits = "0123456789abcdef"

	// leastPlain and greatestPlain are the ends of the decimal exponents at which a Real is told without one.
	leastPlain    = -5
	greatestPlain = 20
)

// Print: P5.4.
func Print(v api.Value) string {
	if !May(v) {
		return ""
	}
	switch v.Kind {
	case api.Int:
		return strconv.FormatInt(v.Int, 10)
	case api.Text:
		return printText(v.Text)
	case api.Real:
		return printReal(v.Real)
	}
	return "null"
}

// Read: P5.4. Whatever the readers below let pass, only the text that Print writes is taken.
func Read(text string) (api.Value, api.Errno) {
	v := guess(text)
	if Print(v) != text {
		return None(), api.ErrValue
	}
	return v, api.OK
}

func printText(s string) string {
	out := make([]byte, 0, len(s)+2)
	out = append(out, quote)
	for i := range len(s) {
		out = appendByte(out, s[i])
	}
	return string(append(out, quote))
}

func appendByte(out []byte, b byte) []byte {
	switch {
	case b == quote || b == backslash:
		return append(out, backslash, b)
	case b >= 32 && b <= 126:
		return append(out, b)
	}
	return append(out, backslash, 'x', hexDigits[b>>4], hexDigits[b&15])
}

func printReal(f float64) string {
	far := strconv.FormatFloat(f, 'e', -1, 64)
	mark := strings.IndexByte(far, 'e')
	exponent, _ := strconv.Atoi(far[mark+1:])
	if exponent < leastPlain || exponent > greatestPlain {
		return withPoint(far[:mark]) + far[mark:]
	}
	return withPoint(strconv.FormatFloat(f, 'f', -1, 64))
}

// withPoint puts a point and a zero behind digits that have no point.
func withPoint(digits string) string {
	if strings.IndexByte(digits, '.') >= 0 {
		return digits
	}
	return digits + ".0"
}

// guess is the one value whose text may be this one: if it has another text, no value has this one. It may be a Text that is too long, which has no text at all.
func guess(text string) api.Value {
	if text != "" && text[0] == quote {
		return Text(readText(text[1:]))
	}
	if i, err := strconv.ParseInt(text, 10, 64); err == nil {
		return Int(i)
	}
	if f, err := strconv.ParseFloat(text, 64); err == nil {
		return Real(f)
	}
	return None()
}

// readText is the bytes of a Text whose text goes on with rest behind its first quote.
func readText(rest string) string {
	var out []byte
	for len(rest) > 1 {
		b, size := readByte(rest)
		out = append(out, b)
		rest = rest[size:]
	}
	return string(out)
}

// readByte is the byte that stands first in rest, and how many bytes tell it.
func readByte(rest string) (b byte, size int) {
	switch {
	case rest[0] != backslash:
		return rest[0], 1
	case rest[1] != 'x' || len(rest) < 4:
		return rest[1], 2
	}
	code, _ := strconv.ParseUint(rest[2:4], 16, 8)
	return byte(code), 4
}

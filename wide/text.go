package wide

import (
	"math/bits"
	"strconv"
	"strings"
)

const (
	// split is the greatest power of ten that a word holds, 10^splitDigits. No size of a wide is 2^64 times as great, so both parts that it is cut into are words.
	split       = 10_000_000_000_000_000_000
	splitDigits = 19

	// longest is how many bytes the text of the least wide has.
	longest = 40
)

// Text: P21.4.
func (w Wide) Text() string {
	hi, lo := w.size()
	front, back := bits.Div64(hi, lo, split)
	text := digits(front, back)
	if w.Hi < 0 {
		return "-" + text
	}
	return text
}

// digits are those of front * split + back, back being below split.
func digits(front, back uint64) string {
	tail := strconv.FormatUint(back, 10)
	if front == 0 {
		return tail
	}
	return strconv.FormatUint(front, 10) + strings.Repeat("0", splitDigits-len(tail)) + tail
}

// Read: P21.4. Whatever guess lets pass, only the text that Text tells is taken.
func Read(text string) (Wide, bool) {
	if len(text) > longest {
		return Wide{}, false
	}
	w := guess(text)
	if w.Text() != text {
		return Wide{}, false
	}
	return w, true
}

// guess is the one wide whose text may be this one: if it has another text, no wide has this one.
func guess(text string) Wide {
	rest, below := strings.CutPrefix(text, "-")
	var w Wide
	for i := range len(rest) {
		w = tenfold(w).Plus(Of(int64(rest[i]) - '0'))
	}
	if below {
		return Wide{}.Minus(w)
	}
	return w
}

// tenfold is ten times w, modulo 2^128.
func tenfold(w Wide) Wide {
	twice := w.Plus(w)
	fourfold := twice.Plus(twice)
	return fourfold.Plus(fourfold).Plus(twice)
}

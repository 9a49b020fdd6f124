package texts_test

import (
	"testing"

	"colonnade/api"
	"colonnade/texts"
)

// TestExamples: the chapter's table.
func TestExamples(t *testing.T) {
	l := []api.Value{word("ab"), null, word("b"), word("ab"), word("abc")}
	chunks := chunksOf(t, withNulls, l)
	for _, x := range []struct {
		p          api.Pred
		yes, maybe uint64
	}{
		{compared(api.Eq, "ab"), 0b01001, 0b10},
		{compared(api.Ge, "abc"), 0b10100, 0b10},
		{begins("ab"), 0b11001, 0b10},
		{in(), 0, 0b10},
		{between("ab", "abc"), 0b11001, 0b10},
		{isNull(), 0b10, 0},
	} {
		for _, ch := range chunks {
			yes, maybe, e := texts.Test(ch, x.p)
			if e != api.OK {
				t.Fatalf("%s by %v: %d", brief(x.p), ch.Codec(), e)
			}
			mustBe(t, brief(x.p), yes, 5, []uint64{x.yes})
			mustBe(t, brief(x.p), maybe, 5, []uint64{x.maybe})
		}
	}
	other, number := compared(api.Eq, "ab"), compared(api.Eq, "")
	other.Column, number.Value = "u", num(3)
	for _, ch := range chunks {
		mustRefuse(t, ch, other, api.ErrColumn)
		mustRefuse(t, ch, number, api.ErrValue)
	}
}

// TestExamplesRange: the chapter's row of Range.
func TestExamplesRange(t *testing.T) {
	keys := []string{"a", "ab", "abc", "b"}
	for _, x := range []struct {
		begin    string
		from, to int
	}{{"ab", 1, 3}, {"c", 4, 4}, {"", 0, 4}} {
		if from, to := texts.Range(keys, x.begin); from != x.from || to != x.to {
			t.Errorf("Range(%q, %q) = %d, %d; want %d, %d", keys, x.begin, from, to, x.from, x.to)
		}
	}
}

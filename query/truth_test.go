package query_test

import (
	"math"
	"slices"
	"strings"
	"testing"

	"colonnade/api"
	"colonnade/query"
)

func mustTruth(t *testing.T, cols []api.Column, p api.Pred, row []api.Value, want api.Truth, wantErr api.Errno) {
	t.Helper()
	if u, e := query.Truth(cols, p, row); u != want || e != wantErr {
		t.Fatalf("Truth(%s, %s, %s) = %d, %d, not %d, %d", brief(cols), brief(p), brief(row), u, e, want, wantErr)
	}
}

// goodRows are of fourColumns.
func goodRows() [][]api.Value {
	var out [][]api.Value
	for _, a := range list(null, num(1), num(2), num(3), num(math.MaxInt64)) {
		for _, s := range list(null, word(""), word("b"), word("ba")) {
			for _, n := range []int64{0, 1, 2, math.MinInt64} {
				for _, t := range []string{"", "a", "b", "bc"} {
					out = append(out, list(a, word(t), num(n), s))
				}
			}
		}
	}
	return out
}

// badRows are not of fourColumns: too short, too long, nulls or Kinds that may not stand there, values that may not be.
func badRows() [][]api.Value {
	good := list(num(1), word("b"), num(2), word("b"))
	out := [][]api.Value{nil, {}, good[:1], good[:3], append(slices.Clone(good), null), append(slices.Clone(good), good...)}
	for i := range good {
		wrong := append(notZero(), float(1), api.Value{Kind: 1, Text: "x"}, api.Value{Kind: 1, Real: minusZero}, api.Value{Kind: 2, Int: 1}, word(strings.Repeat("x", 65536)))
		for _, v := range append(wrong, null, num(5), word("x")) {
			row := slices.Clone(good)
			row[i] = v
			if !ofColumn(fourColumns()[i], v) {
				out = append(out, row)
			}
		}
	}
	return out
}

// TestP23_3Errors: the columns, then the predicate, then the row.
func TestP23_3Errors(t *testing.T) {
	row := list(num(1), word("b"), num(2), null)
	for _, cols := range wrongColumns() {
		mustTruth(t, cols, all, row, 0, api.ErrSchema)
		mustTruth(t, cols, not(), nil, 0, api.ErrSchema)
		mustTruth(t, cols, all, make([]api.Value, len(cols)), 0, api.ErrSchema)
	}
	for _, p := range badPreds() {
		mustTruth(t, fourColumns(), p, row, 0, api.ErrQuery)
		mustTruth(t, fourColumns(), p, nil, 0, api.ErrQuery)
	}
	for _, bad := range badRows() {
		for _, p := range []api.Pred{all, lessThree(), isNull("a"), or(all, isNull("a")), not(isNull("s"))} {
			mustTruth(t, fourColumns(), p, bad, 0, api.ErrValue)
		}
	}
	mustTruth(t, fourColumns(), nots(64, all), row, 0, api.ErrQuery)
	mustTruth(t, fourColumns(), nots(63, all), row, api.No, api.OK)
}

// TestP23_3Atoms: of each row each atom says what it says of the value in its column.
func TestP23_3Atoms(t *testing.T) {
	for _, row := range goodRows() {
		for _, p := range goodAtoms() {
			mustTruth(t, fourColumns(), p, row, says(fourColumns(), p, row), api.OK)
		}
		mustTruth(t, fourColumns(), all, row, api.Yes, api.OK)
		mustTruth(t, fourColumns(), not(all), row, api.No, api.OK)
	}
}

// TestP23_3Joined: the three truths, as of a null, put together in all ways of up to three kids.
func TestP23_3Joined(t *testing.T) {
	row := list(null, word("b"), num(2), word("b"))
	of := map[api.Truth]api.Pred{api.No: isNull("t"), api.Maybe: lessThree(), api.Yes: compared("n", api.Eq, num(2))}
	truths := []api.Truth{api.No, api.Maybe, api.Yes}
	for i, x := range truths {
		mustTruth(t, fourColumns(), of[x], row, x, api.OK)
		mustTruth(t, fourColumns(), not(of[x]), row, truths[2-i], api.OK)
		for j, y := range truths {
			mustTruth(t, fourColumns(), and(of[x], of[y]), row, truths[min(i, j)], api.OK)
			mustTruth(t, fourColumns(), or(of[x], of[y]), row, truths[max(i, j)], api.OK)
			for k, z := range truths {
				mustTruth(t, fourColumns(), and(of[x], of[y], of[z]), row, truths[min(i, j, k)], api.OK)
				mustTruth(t, fourColumns(), or(of[x], of[y], of[z]), row, truths[max(i, j, k)], api.OK)
				mustTruth(t, fourColumns(), not(or(of[x], not(and(of[y], of[z])))), row, truths[2-max(i, 2-min(j, k))], api.OK)
			}
		}
	}
}

// TestP23_3Columns: the value that counts is that of the atom's column, wherever it stands among 256.
func TestP23_3Columns(t *testing.T) {
	cols := manyColumns()
	row := make([]api.Value, len(cols))
	for i, c := range cols {
		row[i] = num(int64(i))
		if c.Type == api.Text {
			row[i] = word(c.Name)
		}
	}
	for i, c := range cols {
		mustTruth(t, cols, compared(c.Name, api.Eq, row[i]), row, api.Yes, api.OK)
		mustTruth(t, cols, isNull(c.Name), row, api.No, api.OK)
		if c.Null {
			was := row[i]
			row[i] = null
			mustTruth(t, cols, compared(c.Name, api.Eq, was), row, api.Maybe, api.OK)
			mustTruth(t, cols, isNull(c.Name), row, api.Yes, api.OK)
			row[i] = was
		}
	}
}

// TestP23_3Great: a predicate of as many and as deep ones as may be.
func TestP23_3Great(t *testing.T) {
	row := list(null, word("b"), num(2), word("b"))
	kids := slices.Repeat([]api.Pred{isNull("t")}, 4095)
	mustTruth(t, fourColumns(), or(kids...), row, api.No, api.OK)
	kids[4094] = lessThree()
	mustTruth(t, fourColumns(), or(kids...), row, api.Maybe, api.OK)
	kids[2000] = all
	mustTruth(t, fourColumns(), or(kids...), row, api.Yes, api.OK)
	mustTruth(t, fourColumns(), nots(62, isNull("a")), row, api.Yes, api.OK)
	mustTruth(t, fourColumns(), nots(63, isNull("a")), row, api.No, api.OK)
	mustTruth(t, fourColumns(), nots(63, lessThree()), row, api.Maybe, api.OK)
}

// TestP23_3ByChance: as the plain reading has it, of rows that are the columns' and of others.
func TestP23_3ByChance(t *testing.T) {
	r := byChance(3)
	seen := map[api.Truth]int{}
	for range 20000 {
		p := somePred(r, fourColumns(), 1+r.IntN(6))
		row := someRow(r, fourColumns())
		want, _ := readTruth(fourColumns(), p, row)
		mustTruth(t, fourColumns(), p, row, want, api.OK)
		seen[want]++
		if r.IntN(2) == 0 {
			p = spoilt(r, p)
		}
		if r.IntN(2) == 0 {
			row = oneOf(r, badRows()[:20])
		}
		want, e := readTruth(fourColumns(), p, row)
		mustTruth(t, fourColumns(), p, row, want, e)
	}
	if seen[api.No] < 2000 || seen[api.Yes] < 2000 || seen[api.Maybe] < 2000 {
		t.Fatalf("too few of a truth: %v", seen)
	}
}

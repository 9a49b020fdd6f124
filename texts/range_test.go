package texts_test

import (
	"fmt"
	"slices"
	"strings"
	"testing"

	"colonnade/api"
	"colonnade/texts"
)

// mustRange holds Range of rising keys against all of them, one by one.
func mustRange(t *testing.T, keys []string, begin string) {
	t.Helper()
	from, to := texts.Range(keys, begin)
	below, some := 0, 0
	for i, k := range keys {
		if order(k, begin) < 0 {
			below++
		}
		is := startsWith(k, begin)
		if is {
			some++
		}
		if is != (i >= from && i < to) {
			t.Fatalf("Range(%s, %s) = %d, %d: key %d is %s", brief(keys), brief(begin), from, to, i, brief(k))
		}
	}
	if from != below || to != below+some {
		t.Fatalf("Range(%s, %s) = %d, %d; want %d, %d", brief(keys), brief(begin), from, to, below, below+some)
	}
}

// beginsAround are texts to ask keys with: keys, what they begin with, what begins with them, and what lies beside them.
func beginsAround(keys []string) []string {
	out := []string{"", "\x00", "a", "m", "\xff", "\xff\xff", "\xff\xff\xff\xff\xff"}
	for _, k := range keys {
		out = append(out, around(k)...)
		for i := range min(len(k), 4) {
			out = append(out, k[:i], k[:i]+"\xff", k[:i]+"\xff\xff")
		}
	}
	slices.Sort(out)
	return slices.Compact(out)
}

// rising are lists of keys that rise: none, one, and all of some sort, and pieces of them.
func rising() [][]string {
	out := [][]string{nil, {}, {""}, {"a"}, {"\x00"}, {"\xff"}, {"\xff\xff"}, {"", "\xff"}, {"a", "b"}, {"ab", "abc"}}
	for _, l := range [][]string{beginOneAnother(), outermost(), slices.Sorted(slices.Values(noUTF8())), numbered(130)} {
		for n := range min(len(l), 12) {
			out = append(out, l[n:], l[:n], l[n:n+1])
		}
		out = append(out, l)
	}
	return out
}

func TestP20_1Range(t *testing.T) {
	for _, keys := range rising() {
		for _, begin := range beginsAround(keys) {
			mustRange(t, keys, begin)
		}
	}
}

// TestP20_1ByChance: keys that often begin one another, of all lengths up to some.
func TestP20_1ByChance(t *testing.T) {
	r := byChance(1)
	for n := range 200 {
		var keys []string
		for range n {
			keys = append(keys, someText(r))
		}
		slices.Sort(keys)
		keys = slices.Compact(keys)
		for range 60 {
			mustRange(t, keys, someText(r))
		}
	}
}

// TestP20_1AllKeys: as many keys as a dictionary may have: each text of two bytes; and such as stand deep within one another.
func TestP20_1AllKeys(t *testing.T) {
	var pairs, deep []string
	for i := range api.MaxDict {
		pairs = append(pairs, string([]byte{byte(i >> 8), byte(i)}))
		deep = append(deep, fmt.Sprintf("%s%04d", strings.Repeat("k", i/3000), i%3000))
	}
	slices.Sort(deep)
	for _, begin := range []string{"", "\x00", "\x00\x00", "\x00\x01", "\x41", "\x41\x42", "\x41\x42\x43", "\xfe", "\xfe\xff", "\xfe\xff\xff", "\xff", "\xff\x00", "\xff\xff", "\xff\xff\x00", "\xff\xff\xff"} {
		mustRange(t, pairs, begin)
		mustRange(t, pairs[1:], begin)
		mustRange(t, pairs[:len(pairs)-1], begin)
	}
	for _, begin := range []string{"", "0", "1", "00", "0000", "2999", "3", "k", "kk", "kkkk0", "kkkk1234", "kkkk12345", "kkkkk3", strings.Repeat("k", 21), strings.Repeat("k", 21) + "0", strings.Repeat("k", 22), "l", "\xff"} {
		mustRange(t, deep, begin)
	}
}

// TestP20_1LongKeys: texts of as many bytes as they may have, and longer ones still, which begin one another.
func TestP20_1LongKeys(t *testing.T) {
	long := strings.Repeat("x", api.MaxText)
	keys := []string{long[:65533], long[:65534], long[:65534] + "\x00", long, long + "x"}
	for _, begin := range append(beginsAround(keys), long[:65532], long[:65534]+"y", long+"xx", strings.Repeat("\xff", 70000)) {
		mustRange(t, keys, begin)
	}
}

// TestP20_1NotRising: of keys that do not rise the call ends.
func TestP20_1NotRising(t *testing.T) {
	r := byChance(2)
	for _, keys := range rising() {
		for _, l := range [][]string{reversed(keys), slices.Concat(keys, keys), slices.Concat(reversed(keys), keys), slices.Repeat([]string{"ab"}, len(keys))} {
			for _, begin := range beginsAround(keys) {
				texts.Range(l, begin)
			}
		}
	}
	for n := range 400 {
		keys := make([]string, n)
		for i := range keys {
			keys[i] = someText(r)
		}
		for range 40 {
			texts.Range(keys, someText(r))
		}
	}
	falling := reversed(numbered(api.MaxDict))
	for _, begin := range []string{"", "0", "5", "655", "9", "\xff"} {
		texts.Range(falling, begin)
	}
}

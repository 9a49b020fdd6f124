package check_test

import (
	"hash/crc32"
	"testing"

	"colonnade/check"
)

func TestP6_1NoBytes(t *testing.T) {
	for _, b := range [][]byte{nil, {}, make([]byte, 0, 9), []byte("abc")[:0], []byte("abc")[3:]} {
		if got := check.Sum(b); got != 0 {
			t.Errorf("Sum of no bytes = %X", got)
		}
	}
}

func TestP6_1OneAndTwoBytes(t *testing.T) {
	for i := range 256 {
		if b := []byte{byte(i)}; check.Sum(b) != plainSum(b) {
			t.Errorf("Sum(% X) = %X, want %X", b, check.Sum(b), plainSum(b))
		}
		for j := range 256 {
			if b := []byte{byte(i), byte(j)}; check.Sum(b) != plainSum(b) {
				t.Fatalf("Sum(% X) = %X, want %X", b, check.Sum(b), plainSum(b))
			}
		}
	}
}

func TestP6_1Lengths(t *testing.T) {
	r := byChance(3)
	for n := range 600 {
		b := someBytes(r, n)
		if got, want := check.Sum(b), plainSum(b); got != want || got != crc32.ChecksumIEEE(b) {
			t.Fatalf("Sum of %d bytes = %X, want %X", n, got, want)
		}
	}
	for _, c := range []byte{0, 1, 0x80, 0xFF} {
		b := make([]byte, 100)
		for i := range b {
			b[i] = c
		}
		for n := range b {
			if got, want := check.Sum(b[:n]), plainSum(b[:n]); got != want {
				t.Errorf("Sum of %d bytes %X = %X, want %X", n, c, got, want)
			}
		}
	}
	if b := someBytes(r, 1<<20+3); check.Sum(b) != crc32.ChecksumIEEE(b) {
		t.Errorf("Sum of %d bytes = %X", len(b), check.Sum(b))
	}
}

func TestP6_2AnySum(t *testing.T) {
	r := byChance(4)
	for _, sum := range sums() {
		for n := range 40 {
			b := someBytes(r, n)
			if got, want := check.More(sum, b), plainMore(sum, b); got != want {
				t.Fatalf("More(%X, % X) = %X, want %X", sum, b, got, want)
			}
		}
		for i := range 256 {
			b := []byte{byte(i)}
			if got, want := check.More(sum, b), plainMore(sum, b); got != want {
				t.Fatalf("More(%X, % X) = %X, want %X", sum, b, got, want)
			}
		}
	}
}

func TestP6_2NoBytes(t *testing.T) {
	for _, sum := range sums() {
		if check.More(sum, nil) != sum || check.More(sum, []byte{}) != sum || check.More(sum, []byte("a")[1:]) != sum {
			t.Errorf("More(%X, none) = %X", sum, check.More(sum, nil))
		}
	}
}

func TestP6_2BytesBehindOthers(t *testing.T) {
	b := someBytes(byChance(5), 70)
	for n := range len(b) + 1 {
		if got := check.More(check.Sum(b[:n]), b[n:]); got != plainSum(b) {
			t.Errorf("cut at %d: %X, want %X", n, got, plainSum(b))
		}
		if got := check.More(0, b[:n]); got != check.Sum(b[:n]) {
			t.Errorf("%d bytes: More(0, b) = %X, Sum = %X", n, got, check.Sum(b[:n]))
		}
	}
}

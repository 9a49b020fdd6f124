package check_test

import (
	"testing"

	"colonnade/check"
)

// asked holds a Stream against the bytes that were written to it; twice, because asking changes nothing.
func asked(t *testing.T, s *check.Stream, b []byte) {
	t.Helper()
	for range 2 {
		if s.Sum() != plainSum(b) || s.Len() != uint64(len(b)) {
			t.Errorf("after % X: Sum %X, Len %d, want %X, %d", b, s.Sum(), s.Len(), plainSum(b), len(b))
		}
	}
}

func TestP6_3ZeroValue(t *testing.T) {
	var s check.Stream
	asked(t, &s, nil)
	asked(t, new(check.Stream), nil)
	asked(t, &check.Stream{}, nil)
	if s != (check.Stream{}) {
		t.Error("asking has changed a Stream")
	}
	s.Reset()
	asked(t, &s, nil)
	s.Write(nil)
	s.Write([]byte{})
	asked(t, &s, nil)
	s.Write([]byte("a"))
	asked(t, &s, []byte("a"))
}

func TestP6_3EachWrite(t *testing.T) {
	r := byChance(6)
	var s check.Stream
	var all []byte
	for range 300 {
		b := someBytes(r, r.IntN(6))
		s.Write(b)
		all = append(all, b...)
		asked(t, &s, all)
	}
}

func TestP6_3ZeroBytesCount(t *testing.T) {
	var s check.Stream
	for n := range 50 {
		asked(t, &s, make([]byte, n))
		s.Write([]byte{0})
	}
}

func TestP6_3Reset(t *testing.T) {
	var s check.Stream
	for _, b := range []string{"123456789", "", "a", "\x00\x00", "123456789"} {
		s.Write([]byte("what goes"))
		s.Reset()
		asked(t, &s, nil)
		s.Write([]byte(b))
		asked(t, &s, []byte(b))
		s.Reset()
		s.Reset()
		asked(t, &s, nil)
	}
}

func TestP6_3Copied(t *testing.T) {
	var s check.Stream
	s.Write([]byte("12"))
	other := s
	asked(t, &other, []byte("12"))
	other.Write([]byte("xyz"))
	asked(t, &s, []byte("12"))
	s.Write([]byte("3456789"))
	asked(t, &s, []byte("123456789"))
	asked(t, &other, []byte("12xyz"))
	third := other
	other.Reset()
	asked(t, &other, nil)
	asked(t, &third, []byte("12xyz"))
	third, other = s, check.Stream{}
	s.Reset()
	asked(t, &third, []byte("123456789"))
	asked(t, &s, nil)
	l := [2]check.Stream{third, third}
	l[0].Write([]byte{7})
	asked(t, &l[0], []byte("123456789\x07"))
	asked(t, &l[1], []byte("123456789"))
}

func TestP6_3Nil(t *testing.T) {
	var s *check.Stream
	for _, b := range [][]byte{nil, {}, {0}, []byte("123456789")} {
		s.Write(b)
		if s.Sum() != 0 || s.Len() != 0 {
			t.Errorf("after % X: Sum %X, Len %d", b, s.Sum(), s.Len())
		}
		s.Reset()
		if s.Sum() != 0 || s.Len() != 0 {
			t.Error("after Reset")
		}
	}
	if s != nil {
		t.Error("a nil *Stream is no longer nil")
	}
	asked(t, new(check.Stream), nil)
}

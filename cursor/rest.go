package cursor

import "colonnade/api"

// rest is what is left within a reading. Its steps lie within one another, so each gives up by a panic with its Errno rather than hand an error on; reading alone recovers it.
type rest []byte

// cut takes the first n bytes off. They are still the reader's: what is answered is made of a copy.
func (l *rest) cut(n uint64) []byte {
	if n > uint64(len(*l)) {
		panic(api.ErrShort)
	}
	b := (*l)[:n]
	*l = (*l)[n:]
	return b
}

// natural is an argument that may not be below 0.
func natural(n int) uint64 {
	if n < 0 {
		panic(api.ErrArg)
	}
	return uint64(n)
}

// number takes a number of the kind T.
func number[T Unsigned](l *rest) T {
	var v uint64
	for i, c := range l.cut(uint64(width[T]())) {
		v |= uint64(c) << (8 * i)
	}
	return T(v)
}

// short takes a short form.
func short(l *rest) uint64 {
	var v uint64
	for i := 0; ; i++ {
		c := l.cut(1)[0]
		if i == longest-1 && c > 1 { // the tenth group has room for the number's last bit alone
			panic(api.ErrForm)
		}
		v |= uint64(c&127) << (7 * i)
		if c < 128 {
			if c == 0 && i > 0 { // fewer groups would have held it
				panic(api.ErrForm)
			}
			return v
		}
	}
}

// count takes a short form that is not above most.
func count(l *rest, most uint64) uint64 {
	n := short(l)
	if n > most {
		panic(api.ErrForm)
	}
	return n
}

// block takes a block of at most so many bytes.
func block(l *rest, most uint64) []byte { return l.cut(count(l, most)) }

// texts takes texts one by one: their number is not believed ahead of that, so that a great one makes no room.
func texts(l *rest, most, each uint64) []string {
	var out []string
	for n := count(l, most); n > 0; n-- {
		out = append(out, string(block(l, each)))
	}
	return out
}

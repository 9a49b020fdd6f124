package cursor_test

import (
	"fmt"
	"math"
	"math/big"
	"math/rand/v2"
	"slices"

	"colonnade/api"
	"colonnade/cursor"
)

// Kinds of numbers over the four.
type (
	octet  uint8
	pair   uint16
	quad   uint32
	eight  uint64
	octet2 octet
)

// plainShort is the short form of a number from 0 to 2^64 - 1, by dividing.
func plainShort(v *big.Int) []byte {
	var groups []byte
	rest := new(big.Int).Set(v)
	for len(groups) == 0 || rest.Sign() > 0 {
		group := new(big.Int)
		rest.DivMod(rest, big.NewInt(128), group)
		groups = append(groups, byte(group.Int64()))
	}
	for i := range groups[:len(groups)-1] {
		groups[i] += 128
	}
	return groups
}

func plainUvarint(v uint64) []byte { return plainShort(new(big.Int).SetUint64(v)) }

// plainFolded is 2v or -2v - 1, in whole numbers of any size.
func plainFolded(v int64) *big.Int {
	n := new(big.Int).Mul(big.NewInt(2), big.NewInt(v))
	if v < 0 {
		n.Neg(n).Sub(n, big.NewInt(1))
	}
	return n
}

func plainBlock(p []byte) []byte { return append(plainUvarint(uint64(len(p))), p...) }

func plainTexts(l []string) []byte {
	b := plainUvarint(uint64(len(l)))
	for _, s := range l {
		b = append(b, plainBlock([]byte(s))...)
	}
	return b
}

// plainPut is the bytes of v by dividing, the lowest first.
func plainPut(v uint64, width int) []byte {
	var b []byte
	for range width {
		b = append(b, byte(v%256))
		v /= 256
	}
	return b
}

// plainReader is a reader as the chapter's words say it: bytes, a place, a fault. Each step tells the place behind what it took, or an error.
type plainReader struct {
	b     []byte
	at    int
	fault api.Errno
}

func (p *plainReader) short(at int) (*big.Int, int, api.Errno) {
	v := new(big.Int)
	for i := 0; ; i++ {
		if at+i >= len(p.b) {
			return nil, 0, api.ErrShort
		}
		c := p.b[at+i]
		if i == 9 && c > 1 {
			return nil, 0, api.ErrForm
		}
		group := new(big.Int).Exp(big.NewInt(128), big.NewInt(int64(i)), nil)
		v.Add(v, group.Mul(group, big.NewInt(int64(c%128))))
		if c >= 128 {
			continue
		}
		if c == 0 && i > 0 {
			return nil, 0, api.ErrForm
		}
		return v, at + i + 1, api.OK
	}
}

func (p *plainReader) block(at, most int) ([]byte, int, api.Errno) {
	n, at, e := p.short(at)
	if e != api.OK {
		return nil, 0, e
	}
	if n.Cmp(big.NewInt(int64(most))) > 0 {
		return nil, 0, api.ErrForm
	}
	if n.Cmp(big.NewInt(int64(len(p.b)-at))) > 0 {
		return nil, 0, api.ErrShort
	}
	to := at + int(n.Int64())
	return p.b[at:to], to, api.OK
}

func (p *plainReader) texts(at, most, each int) ([]string, int, api.Errno) {
	n, at, e := p.short(at)
	if e != api.OK {
		return nil, 0, e
	}
	if n.Cmp(big.NewInt(int64(most))) > 0 {
		return nil, 0, api.ErrForm
	}
	var l []string
	for n.Cmp(big.NewInt(int64(len(l)))) > 0 {
		s, behind, e := p.block(at, each)
		if e != api.OK {
			return nil, 0, e
		}
		l, at = append(l, string(s)), behind
	}
	return l, at, api.OK
}

// asked is one reading: its name and its arguments.
type asked struct {
	call       string
	most, each int
}

// plainRead does one reading, and tells its answer as a text.
func (p *plainReader) read(q asked) string {
	if p.fault != api.OK {
		return zero(q)
	}
	answer, at, e := p.step(q)
	if e != api.OK {
		p.fault = e
		return zero(q)
	}
	p.at = at
	return answer
}

// step is a reading's answer and the place behind it, or its error.
func (p *plainReader) step(q asked) (string, int, api.Errno) {
	left := len(p.b) - p.at
	if width := widths[q.call]; width > 0 {
		if left < width {
			return "", 0, api.ErrShort
		}
		v := new(big.Int)
		for i := width - 1; i >= 0; i-- {
			v.Add(v.Mul(v, big.NewInt(256)), big.NewInt(int64(p.b[p.at+i])))
		}
		return v.String(), p.at + width, api.OK
	}
	switch q.call {
	case "Uvarint", "Varint":
		v, at, e := p.short(p.at)
		if e != api.OK {
			return "", 0, e
		}
		if q.call == "Varint" {
			v = plainUnfolded(v)
		}
		return v.String(), at, api.OK
	case "Bytes":
		if q.most < 0 {
			return "", 0, api.ErrArg
		}
		if left < q.most {
			return "", 0, api.ErrShort
		}
		return fmt.Sprintf("%X", p.b[p.at:p.at+q.most]), p.at + q.most, api.OK
	case "Block":
		if q.most < 0 {
			return "", 0, api.ErrArg
		}
		b, at, e := p.block(p.at, q.most)
		return fmt.Sprintf("%X", b), at, e
	}
	if q.most < 0 || q.each < 0 {
		return "", 0, api.ErrArg
	}
	l, at, e := p.texts(p.at, q.most, q.each)
	return fmt.Sprintf("%q", l), at, e
}

// plainUnfolded looks on both sides of 0 for the number that folds to v.
func plainUnfolded(v *big.Int) *big.Int {
	half := new(big.Int).Rsh(v, 1)
	for _, n := range []*big.Int{half, new(big.Int).Sub(new(big.Int).Neg(half), big.NewInt(1))} {
		if n.IsInt64() && plainFolded(n.Int64()).Cmp(v) == 0 {
			return n
		}
	}
	return nil
}

// end is what End says.
func (p *plainReader) end() api.Errno {
	if p.fault != api.OK {
		return p.fault
	}
	if p.at < len(p.b) {
		return api.ErrRest
	}
	return api.OK
}

// widths are the kinds that Take is asked for.
var widths = map[string]int{"uint8": 1, "uint16": 2, "uint32": 4, "uint64": 8, "octet": 1, "pair": 2, "quad": 4, "eight": 8, "octet2": 1}

// zero is how the answer of a refused reading is told.
func zero(q asked) string {
	switch q.call {
	case "Bytes", "Block":
		return ""
	case "Texts":
		return "[]"
	}
	return "0"
}

// read does one reading with the program's reader, and tells its answer as a text.
func read(r *cursor.Reader, q asked) string {
	switch q.call {
	case "uint8":
		return fmt.Sprint(cursor.Take[uint8](r))
	case "uint16":
		return fmt.Sprint(cursor.Take[uint16](r))
	case "uint32":
		return fmt.Sprint(cursor.Take[uint32](r))
	case "uint64":
		return fmt.Sprint(cursor.Take[uint64](r))
	case "octet":
		return fmt.Sprint(cursor.Take[octet](r))
	case "pair":
		return fmt.Sprint(cursor.Take[pair](r))
	case "quad":
		return fmt.Sprint(cursor.Take[quad](r))
	case "eight":
		return fmt.Sprint(cursor.Take[eight](r))
	case "octet2":
		return fmt.Sprint(cursor.Take[octet2](r))
	case "Uvarint":
		return fmt.Sprint(r.Uvarint())
	case "Varint":
		return fmt.Sprint(r.Varint())
	case "Bytes":
		return fmt.Sprintf("%X", r.Bytes(q.most))
	case "Block":
		return fmt.Sprintf("%X", r.Block(q.most))
	}
	return fmt.Sprintf("%q", r.Texts(q.most, q.each))
}

// everyReading is each reading with arguments of all sorts.
func everyReading() []asked {
	var l []asked
	for call := range widths {
		l = append(l, asked{call: call})
	}
	slices.SortFunc(l, func(a, b asked) int { return slices.Compare([]byte(a.call), []byte(b.call)) })
	l = append(l, asked{call: "Uvarint"}, asked{call: "Varint"})
	sizes := []int{math.MinInt, -1, 0, 1, 2, 3, 200, math.MaxInt}
	for _, most := range sizes {
		l = append(l, asked{"Bytes", most, 0}, asked{"Block", most, 0})
		for _, each := range sizes {
			l = append(l, asked{"Texts", most, each})
		}
	}
	return l
}

// byChance is a source of numbers, the same in each run.
func byChance(seed uint64) *rand.Rand { return rand.New(rand.NewPCG(7, seed)) }

// someBytes are n bytes by chance: great ones, and small ones as often as not.
func someBytes(r *rand.Rand, n int) []byte {
	b := make([]byte, n)
	for i := range b {
		switch r.IntN(4) {
		case 0:
			b[i] = byte(r.IntN(256))
		case 1:
			b[i] = 128 + byte(r.IntN(3))
		default:
			b[i] = byte(r.IntN(4))
		}
	}
	return b
}

// numbers are numbers at the ends of each group of seven bits and of each byte, and some by chance.
func numbers() []uint64 {
	l := []uint64{0, 1<<64 - 1}
	for i := range 64 {
		l = append(l, 1<<i-1, 1<<i, 1<<i+1)
	}
	r := byChance(1)
	for range 300 {
		l = append(l, r.Uint64()>>r.IntN(64))
	}
	return l
}

// signed are numbers with a sign, both ends among them.
func signed() []int64 {
	l := []int64{0, math.MinInt64, math.MinInt64 + 1, math.MaxInt64, math.MaxInt64 - 1}
	for _, v := range numbers() {
		l = append(l, int64(v), -int64(v))
	}
	return l
}

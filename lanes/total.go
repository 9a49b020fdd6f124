package lanes

import (
	"math"
	mathbits "math/bits"

	"colonnade/api"
)

// Sum: P3.6.
func Sum(b []byte, width, n int) (hi, lo uint64, e api.Errno) {
	p, e := packedOf(b, width, n)
	if e != api.OK || width == 0 {
		return 0, 0, e
	}
	p.each(cutOf(width), func(v uint64) {
		sum, carry := mathbits.Add64(lo, v, 0)
		lo = sum
		hi += carry
	})
	return hi, lo, api.OK
}

// Ends: P3.6.
func Ends(b []byte, width, n int) (least, greatest uint64, e api.Errno) {
	p, e := packedOf(b, width, n)
	if e != api.OK || width == 0 || n == 0 {
		return 0, 0, e
	}
	least = math.MaxUint64
	p.each(cutOf(width), func(v uint64) {
		least = min(least, v)
		greatest = max(greatest, v)
	})
	return least, greatest, api.OK
}

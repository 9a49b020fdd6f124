package wide

import (
	"math"
	"math/bits"

	"colonnade/api"
)

// floatBits is how many bits of a number a float64 keeps.
const floatBits = 53

// Mean: P21.5.
func Mean(total Wide, n int) (float64, api.Errno) {
	if n < 1 {
		return 0, api.ErrArg
	}
	if total == (Wide{}) {
		return 0, api.OK
	}
	hi, lo := total.size()
	mean := quotient(hi, lo, uint64(n))
	if total.Hi < 0 {
		return -mean, api.OK
	}
	return mean, api.OK
}

// quotient is the float64 nearest to hi * 2^64 + lo, which is from 1 to 2^127, divided by n, which is from 1 to 2^64 - 1. Both are brought to so many bits that the whole part of their quotient has 63 or 64: more than a float64 keeps, so that of what lies behind it counts only whether it is there.
func quotient(hi, lo, n uint64) float64 {
	hi, lo, up := lifted(hi, lo)
	down := bits.LeadingZeros64(n)
	whole, rest := bits.Div64(hi, lo, n<<down)
	if rest != 0 {
		whole |= 1
	}
	kept, power := rounded(whole)
	return math.Ldexp(float64(kept), power+down-up)
}

// lifted is a number from 1 to 2^127, times 2^up: its highest bit is the second one of 128 then, because the upper half of what is divided must be below the word that it is divided by. The bit that falls out below is 0: either zeros came in there, or the number is 2^127.
func lifted(hi, lo uint64) (h, l uint64, up int) {
	if hi == 0 {
		hi, lo, up = lo, 0, 64
	}
	zeros := bits.LeadingZeros64(hi)
	hi, lo = hi<<zeros|lo>>(64-zeros), lo<<zeros
	return hi >> 1, hi<<63 | lo>>1, up + zeros - 1
}

// rounded is kept * 2^power, the number nearest to u whose bits a float64 keeps, of two that are as near the even one. It is done here on whole numbers, because the language does not say to which side a conversion rounds. (u has more bits than floatBits.)
func rounded(u uint64) (kept uint64, power int) {
	power = bits.Len64(u) - floatBits
	half := uint64(1) << (power - 1)
	kept = u >> power
	cut := u - kept<<power
	if cut > half || cut == half && kept%2 == 1 {
		kept++
	}
	return kept, power
}

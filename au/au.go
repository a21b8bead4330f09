// Package au is layer 1, lengths: whole numbers of sixtieths of a pixel, from -api.Max to api.Max.
//
// What is reckoned is exact, and cut to a length at the end alone.
package au

import (
	"math/bits"

	"jamb/api"
)

// wide is a number of 128 bits in two's complement: high times 2^64, and low.
type wide struct {
	high int64
	low  uint64
}

// Cut: a number cut to a length, and whether it was beyond. (P1.1)
func Cut(x int64) (int64, bool) {
	if x > api.Max {
		return api.Max, true
	}
	if x < -api.Max {
		return -api.Max, true
	}
	return x, false
}

// Sum: of all numbers, cut, and whether it was beyond. (P1.1)
func Sum(l ...int64) (int64, bool) {
	var total wide
	put := func(x int64) {
		low, carry := bits.Add64(total.low, uint64(x), 0)
		// A number below 0 has all bits of its high half set: x>>63 is that half.
		total = wide{total.high + x>>63 + int64(carry), low}
	}
	for _, x := range l {
		put(x)
	}
	return total.cut()
}

// cut is Cut of a number of 128 bits.
func (w wide) cut() (int64, bool) {
	x := int64(w.low)
	if w.high == x>>63 {
		return Cut(x)
	}
	return bound(w.high < 0), true
}

// bound: the least length, or the greatest one.
func bound(below bool) int64 {
	if below {
		return -api.Max
	}
	return api.Max
}

// MulDiv: the floor of a times b, divided by c, cut, and whether it was beyond. (P1.2)
func MulDiv(a, b, c int64) (int64, bool) {
	if c == 0 {
		return 0, true
	}
	below := (a < 0) != (b < 0) != (c < 0)
	by := size(c)
	high, low := bits.Mul64(size(a), size(b))
	if high >= by {
		// The quotient has no room in 64 bits, and Div64 would panic.
		return bound(below), true
	}
	quotient, rest := bits.Div64(high, low, by)
	if quotient > api.Max {
		return bound(below), true
	}
	if !below {
		return int64(quotient), false
	}
	floor := -int64(quotient)
	if rest > 0 {
		floor--
	}
	return Cut(floor)
}

// size: how far a number is from 0. That of -2^63 has no room in an int64, so it is unsigned.
func size(x int64) uint64 {
	if x < 0 {
		return -uint64(x)
	}
	return uint64(x)
}

// Part: so many ten thousandths of a whole. (P1.2)
func Part(whole, n int64) (int64, bool) { return MulDiv(whole, n, api.Whole) }

// Within: a number within two others, of which the least one wins. (P1.3)
func Within(x, least, most int64) int64 { return max(min(x, most), least) }

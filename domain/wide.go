package domain

import (
	"math/bits"
)

// A wide is a number of 128 bits: products of any two numbers, and sums of MaxPlaces of them with a Coef,
// fit into it.
type wide struct {
	high int64
	low  uint64
}

func wideOf(n int) wide { return wide{high: int64(n) >> 63, low: uint64(n)} }

func sumOf(a, b int) wide { return wideOf(a).plus(wideOf(b)) }

func times(a, b int) wide {
	high, low := bits.Mul64(uint64(a), uint64(b))
	// Mul64 takes a number below 0 as one that is greater by 2^64.
	if a < 0 {
		high -= uint64(b)
	}
	if b < 0 {
		high -= uint64(a)
	}
	return wide{high: int64(high), low: low}
}

func (a wide) plus(b wide) wide {
	low, carry := bits.Add64(a.low, b.low, 0)
	return wide{high: a.high + b.high + int64(carry), low: low}
}

func (a wide) isLess(b wide) bool {
	if a.high != b.high {
		return a.high < b.high
	}
	return a.low < b.low
}

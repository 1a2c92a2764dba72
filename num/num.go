// Package num is layer 1: numbers as bytes, and what floating ones do at their edges. See shared/doc/01-num.md.
package num

import "math"

const wide = 8 // bytes of a number

// mostUp and mostStep are the limits of Up, within which no product goes round.
const (
	mostUp   = 1 << 40
	mostStep = 1 << 20
)

// oneNaN is the only NaN that is ever told: by others, bits would tell ways of reckoning apart.
const oneNaN = 0x7FF8000000000000

// Kinds of floating numbers.
const (
	kindNaN = iota
	kindBelowAll
	kindBelow
	kindMinusNought
	kindNought
	kindAbove
	kindAboveAll
)

// Put is v's n lowest bytes, the lowest first.
func Put(n int, v uint64) []byte {
	if n < 1 || n > wide {
		return nil
	}
	b := make([]byte, n)
	for i := range n {
		b[i] = byte(v >> (8 * i))
	}
	return b
}

// Get is the number of b's first eight bytes, the lowest first.
func Get(b []byte) uint64 {
	var v uint64
	for i := range min(len(b), wide) {
		v |= uint64(b[i]) << (8 * i)
	}
	return v
}

// Up is the least multiple of to that is not below n.
func Up(n, to int) int {
	if n < 0 || n > mostUp || to < 1 || to > mostStep {
		return 0
	}
	return (n + to - 1) / to * to
}

// Bits is f's bits by the standard.
func Bits(f float64) uint64 {
	if isNaN(f) {
		return oneNaN
	}
	return math.Float64bits(f)
}

// Float is the number with these bits.
func Float(b uint64) float64 {
	f := math.Float64frombits(b)
	if isNaN(f) {
		return math.Float64frombits(oneNaN)
	}
	return f
}

// Kind is what f is.
func Kind(f float64) int {
	switch {
	case isNaN(f):
		return kindNaN
	case f < -math.MaxFloat64:
		return kindBelowAll
	case f < 0:
		return kindBelow
	case f > math.MaxFloat64:
		return kindAboveAll
	case f > 0:
		return kindAbove
	case 1/f < 0: // the noughts are equal, but what is divided by them is not
		return kindMinusNought
	}
	return kindNought
}

// Less is whether a is less than b, as the standard says.
func Less(a, b float64) bool { return a < b }

// Equal is whether a and b are equal, as the standard says.
func Equal(a, b float64) bool { return a == b }

// Total is -1, 0 or 1 by an order of all numbers, NaN ahead of the others.
func Total(a, b float64) int {
	ka, kb := Kind(a), Kind(b)
	switch {
	case ka < kb || Less(a, b): // what is less is of no later kind
		return -1
	case ka > kb || Less(b, a):
		return 1
	}
	return 0
}

// ToInt is f without what stands behind its point, held within what a whole number may be.
func ToInt(f float64) int64 {
	switch {
	case isNaN(f):
		return 0
	case f < math.MinInt64:
		return math.MinInt64
	case f >= 1<<63: // 2^63 - 1 is no floating number, so it can't be asked for
		return math.MaxInt64
	}
	return int64(f)
}

// isNaN leans on a NaN being all that is not equal to itself.
func isNaN(f float64) bool { return f != f }

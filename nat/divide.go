package nat

import "math/bits"

// divided answers the quotient by b, which is not nought, and the rest.
func divided(a []uint32, b []uint32) ([]uint32, []uint32) {
	switch {
	case compared(a, b) < 0:
		return nil, append([]uint32{}, a...)
	case len(b) == 1:
		return dividedByLimb(a, uint64(b[0]))
	}
	return dividedByRow(a, b)
}

func restOf(a []uint32, b []uint32) []uint32 {
	_, rest := divided(a, b)
	return rest
}

func dividedByLimb(a []uint32, by uint64) ([]uint32, []uint32) {
	rest := uint64(0)
	quotient := downward(a, func(x uint64) uint64 {
		all := rest*base + x
		rest = all % by
		return all / by
	})
	return quotient, trimmed([]uint32{uint32(rest)})
}

// dividedByRow divides by several limbs, as it is done by hand: each limb of the quotient is taken from one limb more of the rest than b has.
func dividedByRow(a []uint32, b []uint32) ([]uint32, []uint32) {
	rest := make([]uint32, len(a)+1)
	copy(rest, a)
	quotient := make([]uint32, len(a)-len(b)+1)
	for at := len(quotient) - 1; at >= 0; at-- {
		end := at + len(b) + 1
		quotient[at] = takeAll(rest[at:end:end], b)
	}
	return trimmed(quotient), trimmed(rest)
}

// takeAll takes b from a row of one limb more as often as it can, and tells how often: fewer than base times.
func takeAll(row []uint32, b []uint32) uint32 {
	times := guess(row, b)
	take(row, b, times)
	// The guess is at most one short: its divisor is one too great, but it is greater than the quotient.
	if compared(trimmed(row), b) >= 0 {
		take(row, b, 1)
		times++
	}
	return uint32(times)
}

// guess tells by the highest limbs how often b can be taken from a row: never too often, since b counts as if its other limbs were past their greatest.
func guess(row []uint32, b []uint32) uint64 {
	n := len(b)
	high, low := bits.Mul64(uint64(row[n]), square)
	low, carry := bits.Add64(low, uint64(row[n-1])*base+uint64(row[n-2]), 0)
	// The highest limb of b is not nought: so the divisor is past base, and high, below 10^27 / 2^64, is less.
	times, _ := bits.Div64(high+carry, low, uint64(b[n-1])*base+uint64(b[n-2])+1)
	return times
}

// take takes b from a row that many times; the row is not less than that.
func take(row []uint32, b []uint32, times uint64) {
	borrow := uint64(0)
	for i, y := range b {
		part := uint64(y)*times + borrow
		low, x := part%base, uint64(row[i])
		borrow = part / base
		if x < low {
			x += base
			borrow++
		}
		row[i] = uint32(x - low)
	}
	row[len(b)] -= uint32(borrow)
}

package nat

import "caliper/api"

// A limb is below base, which has this many noughts.
const (
	base   = 1000000000
	digits = 9
)

// square is the worth of the limb two places on. Products of two limbs are below it.
const square = base * base

// room is how far a sum of products may go: one more still fits into 64 bits.
const room = 8 * square

// checked is the first error of these numbers.
func checked(numbers ...[]uint32) api.Errno {
	for _, a := range numbers {
		if e := Check(a); e != api.OK {
			return e
		}
	}
	return api.OK
}

// trimmed cuts noughts off the end, and the room behind it, so that nothing is appended there.
func trimmed(a []uint32) []uint32 {
	n := len(a)
	for n > 0 && a[n-1] == 0 {
		n--
	}
	return a[:n:n]
}

// compared compares from the highest limb on.
func compared(a []uint32, b []uint32) int {
	if len(a) != len(b) {
		return sign(len(a) < len(b))
	}
	for i := len(a) - 1; i >= 0; i-- {
		if a[i] != b[i] {
			return sign(a[i] < b[i])
		}
	}
	return 0
}

// sign is the order of two that differ.
func sign(less bool) int {
	if less {
		return -1
	}
	return 1
}

// upward goes through n limbs of both, the lowest first, with noughts behind their ends: what join makes of them are limbs of a new number.
func upward(n int, a []uint32, b []uint32, join func(x uint64, y uint64) uint64) []uint32 {
	limbs := make([]uint32, n)
	for i := range limbs {
		limbs[i] = uint32(join(limbAt(a, i), limbAt(b, i)))
	}
	return trimmed(limbs)
}

// downward goes through all limbs, the highest first: what change makes of them are limbs of a new number.
func downward(a []uint32, change func(x uint64) uint64) []uint32 {
	limbs := make([]uint32, len(a))
	for i := len(a) - 1; i >= 0; i-- {
		limbs[i] = uint32(change(uint64(a[i])))
	}
	return trimmed(limbs)
}

// limbAt is nought behind the end.
func limbAt(a []uint32, i int) uint64 {
	if i < len(a) {
		return uint64(a[i])
	}
	return 0
}

func sum(a []uint32, b []uint32) []uint32 {
	carry := uint64(0)
	return upward(max(len(a), len(b))+1, a, b, func(x uint64, y uint64) uint64 {
		all := x + y + carry
		carry = all / base
		return all % base
	})
}

// difference takes b from a, which is not less.
func difference(a []uint32, b []uint32) []uint32 {
	borrow := uint64(0)
	return upward(len(a), a, b, func(x uint64, y uint64) uint64 {
		all := base + x - y - borrow
		borrow = 1 - all/base
		return all % base
	})
}

// product adds up column by column, so that a remainder is taken once a limb, not once a product.
func product(a []uint32, b []uint32) []uint32 {
	limbs := make([]uint32, len(a)+len(b))
	carry := uint64(0)
	for i := range limbs {
		low, squares := column(a, b, i, carry)
		limbs[i] = uint32(low % base)
		carry = low/base + squares*base
	}
	return trimmed(limbs)
}

// column adds to a start all products of two limbs whose places make up one: what is left below room, and how many squares were taken off it.
func column(a []uint32, b []uint32, place int, start uint64) (uint64, uint64) {
	low, squares := start, uint64(0)
	from := max(0, place-len(b)+1)
	for i := from; i < len(a) && i <= place; i++ {
		low += uint64(a[i]) * uint64(b[place-i])
		if low >= room {
			low -= room
			squares += room / square
		}
	}
	return low, squares
}

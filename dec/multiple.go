package dec

import (
	"caliper/api"
	"caliper/nat"
)

// factor is one of ten's two primes, and its greatest power that is one limb.
type factor struct {
	prime uint32
	power uint32
	times int
}

// divides tells whether a is a multiple of b, which is above nought.
func divides(b api.Dec, a api.Dec) bool {
	tens := a.Exp - b.Exp
	switch {
	case a == nought():
		return true
	case tens < 0:
		// A whole number of b is then a multiple of ten, counted in a's last place, where a's digit is not nought.
		return false
	}
	dividend, _ := nat.Of(a.Digits)
	_, rest, _ := nat.Div(dividend, withoutTens(b.Digits, tens))
	return len(rest) == 0
}

// withoutTens takes out of a divisor what a dividend's tens are divided by: that many twos or fives at most.
// Digits without a nought at their end never have both; so the tens need not be multiplied out, however many they are.
func withoutTens(digits string, tens int) []uint32 {
	divisor, _ := nat.Of(digits)
	switch last := digits[len(digits)-1]; {
	case last == '5':
		return without(divisor, factor{prime: 5, power: 244140625, times: 12}, tens)
	case (last-'0')%2 == 0:
		return without(divisor, factor{prime: 2, power: 1 << 29, times: 29}, tens)
	}
	return divisor
}

// without takes a prime out of a number, as often as it is there, but at most that often.
func without(a []uint32, f factor, most int) []uint32 {
	for most >= f.times {
		quotient, rest, _ := nat.Div(a, []uint32{f.power})
		if len(rest) > 0 {
			break
		}
		a, most = quotient, most-f.times
	}
	for ; most > 0; most-- {
		quotient, rest, _ := nat.Div(a, []uint32{f.prime})
		if len(rest) > 0 {
			break
		}
		a = quotient
	}
	return a
}

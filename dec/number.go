package dec

import (
	"cmp"
	"strconv"
	"strings"

	"caliper/api"
)

// nought is the one number without digits.
func nought() api.Dec {
	return api.Dec{}
}

// checked is the first error of these numbers.
func checked(numbers ...api.Dec) api.Errno {
	for _, d := range numbers {
		if e := Check(d); e != api.OK {
			return e
		}
	}
	return api.OK
}

// areDigits tells whether a text is what a number other than nought may have as its digits.
func areDigits(s string) bool {
	if len(s) == 0 || len(s) > api.MaxDigits || s[0] == '0' || s[len(s)-1] == '0' {
		return false
	}
	return digitsAhead(s) == len(s)
}

// digitsAhead tells with how many digits a text begins.
func digitsAhead(s string) int {
	n := 0
	for n < len(s) && s[n] >= '0' && s[n] <= '9' {
		n++
	}
	return n
}

// written writes into new memory, even where a number's digits are all its text.
func written(d api.Dec) string {
	if d == nought() {
		return "0"
	}
	var text strings.Builder
	if d.Neg {
		text.WriteByte('-')
	}
	text.WriteString(d.Digits)
	if d.Exp != 0 {
		text.WriteByte('e')
		text.WriteString(strconv.Itoa(d.Exp))
	}
	return text.String()
}

// sign is -1 of what is below nought, 0 of nought, 1 of what is above it.
func sign(d api.Dec) int {
	switch {
	case d == nought():
		return 0
	case d.Neg:
		return -1
	}
	return 1
}

// height tells how many places a number has ahead of the point.
func height(d api.Dec) int {
	return len(d.Digits) + d.Exp
}

// order compares numbers that may be: each has one form alone, so like ones are the same.
func order(a api.Dec, b api.Dec) int {
	switch {
	case a == b:
		return 0
	case sign(a) != sign(b):
		return cmp.Compare(sign(a), sign(b))
	case a.Neg:
		return orderOfSizes(b, a)
	}
	return orderOfSizes(a, b)
}

// orderOfSizes compares without signs. Digits of one height stand under each other from the first on, so they compare as texts do.
func orderOfSizes(a api.Dec, b api.Dec) int {
	if height(a) != height(b) {
		return cmp.Compare(height(a), height(b))
	}
	return strings.Compare(a.Digits, b.Digits)
}

// small is the value of a whole number of few places, not below nought.
func small(d api.Dec) int64 {
	value := int64(0)
	for i := range len(d.Digits) {
		value = value*10 + int64(d.Digits[i]-'0')
	}
	for range d.Exp {
		value *= 10
	}
	return value
}

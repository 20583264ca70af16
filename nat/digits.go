package nat

import (
	"strconv"
	"strings"
)

func allDigits(s string) bool {
	for i := range len(s) {
		if s[i] < '0' || s[i] > '9' {
			return false
		}
	}
	return true
}

// limbOf reads at most nine digits.
func limbOf(s string) uint32 {
	limb := uint32(0)
	for i := range len(s) {
		limb = limb*10 + uint32(s[i]-'0')
	}
	return limb
}

// written writes the highest limb as it is, and the others with all their noughts.
func written(a []uint32) string {
	if len(a) == 0 {
		return "0"
	}
	var text strings.Builder
	for i := len(a) - 1; i >= 0; i-- {
		s := strconv.FormatUint(uint64(a[i]), 10)
		if i < len(a)-1 {
			text.WriteString(strings.Repeat("0", digits-len(s)))
		}
		text.WriteString(s)
	}
	return text.String()
}

package sat

import (
	"math/bits"
	"slices"
)

// marks are numbers of elements, as bits: the last word, if there is one, is not 0. Once an answer holds them they are not changed, as those of forms that ask it may be the same.
type marks []uint64

// word is how many bits a word has.
const word = 64

func (m marks) has(n int) bool {
	return n/word < len(m) && m[n/word]>>(n%word)&1 != 0
}

// put adds a number, in the memory of m itself.
func (m marks) put(n int) marks {
	for n/word >= len(m) {
		m = append(m, 0)
	}
	m[n/word] |= 1 << (n % word)
	return m
}

// holds tells whether all numbers of other marks, which are no longer, are among these.
func (m marks) holds(other marks) bool {
	for i, w := range other {
		if w&^m[i] != 0 {
			return false
		}
	}
	return true
}

// joined are the numbers of both, in new memory only where neither has all: a long row of forms, each of which asks the next one, has one and the same marks.
func (m marks) joined(other marks) marks {
	if len(m) < len(other) {
		m, other = other, m
	}
	if m.holds(other) {
		return m
	}
	all := slices.Clone(m)
	for i, w := range other {
		all[i] |= w
	}
	return all
}

// numbers are the marks, rising.
func (m marks) numbers() []int {
	var all []int
	for i, w := range m {
		for ; w != 0; w &= w - 1 {
			all = append(all, i*word+bits.TrailingZeros64(w))
		}
	}
	return all
}

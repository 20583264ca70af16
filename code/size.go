package code

import (
	"caliper/api"
	"caliper/value"
)

// sizes are those of what instructions can name, measured once each, as many instructions may name the same.
type sizes struct {
	sets     []int
	names    []int
	automata []int
	rows     []int
}

func sizeOf(c *api.Code) int {
	s := sizesOf(c)
	size := len(c.Ins) + len(c.Routines)
	add := func(o operand, n int) bool {
		size += s.of(o, n)
		return true
	}
	for _, i := range c.Ins {
		areAll(i, add)
	}
	return size
}

func sizesOf(c *api.Code) sizes {
	automata := measured(c.Automata, func(states []api.State) int { return len(states) })
	return sizes{
		sets:     measured(c.Sets, func(values []api.Value) int { return total(values, value.Size) }),
		names:    measured(c.Names, func(texts []string) int { return len(texts) }),
		automata: automata,
		rows: measured(c.Rows, func(numbers []int) int {
			return len(numbers) + total(numbers, func(n int) int { return automata[n] })
		}),
	}
}

// of answers the size of what an operand names.
func (s *sizes) of(o operand, n int) int {
	switch o {
	case set:
		return s.sets[n]
	case names:
		return s.names[n]
	case automaton:
		return s.automata[n]
	case row:
		return s.rows[n]
	}
	return 0
}

// measured answers the size of each element of a list.
func measured[T any](list []T, size func(T) int) []int {
	all := make([]int, len(list))
	for i, element := range list {
		all[i] = size(element)
	}
	return all
}

// total answers the sizes of a list's elements together.
func total[T any](list []T, size func(T) int) int {
	sum := 0
	for _, element := range list {
		sum += size(element)
	}
	return sum
}

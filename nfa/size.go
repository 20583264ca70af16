package nfa

import "caliper/api"

// noEnd is the Max of a count without an end.
const noEnd = -1

// counter counts states up to a limit (1 at least), which stands for all that is above it: counts in counts come to more than any int holds.
type counter struct {
	limit int
}

// plus adds what is not below 0.
func (c counter) plus(a int, b int) int {
	if a >= c.limit || b >= c.limit-a {
		return c.limit
	}
	return a + b
}

// times multiplies what is not below 0.
func (c counter) times(n int, a int) int {
	if n > 0 && a > c.limit/n {
		return c.limit
	}
	return n * a
}

// states counts those of a tree, without the StDone.
func (c counter) states(x api.Rx) int {
	switch x.Kind {
	case api.RxEmpty:
		return 0
	case api.RxSeq:
		return c.all(x.Sub)
	case api.RxAlt:
		return c.plus(c.all(x.Sub), c.times(len(x.Sub)-1, 2))
	case api.RxRepeat:
		return c.repeat(x)
	}
	return 1
}

// all counts those of trees one behind the other.
func (c counter) all(trees []api.Rx) int {
	sum := 0
	for _, x := range trees {
		sum = c.plus(sum, c.states(x))
	}
	return sum
}

// repeat counts those of a count.
func (c counter) repeat(x api.Rx) int {
	once := c.states(x.Sub[0])
	least := c.times(x.Min, once)
	if x.Max == noEnd {
		return c.plus(least, c.plus(once, 2))
	}
	return c.plus(least, c.times(x.Max-x.Min, c.plus(once, 1)))
}

package code

import (
	"testing"

	"caliper/api"
)

// empty is the size of rich code with one instruction, but for what that names: it has three routines and four instructions beside it.
const empty = 8

func sizeIs(t *testing.T, c api.Code, n int) {
	t.Helper()
	if size := Size(c); size != n {
		t.Errorf("%d, not %d, is the size of %+v", size, n, c.Ins)
	}
}

// P20.2 Size: what each op names, and that nothing else counts.
func TestSize(t *testing.T) {
	sizeIs(t, rich(), empty-1)
	for op := api.OpDone; op <= api.OpLeft; op++ {
		numbers := fine(op, 0)
		size := empty
		if has := append(hasOf(op), ""); has[0] == "some" {
			size += 1 // OpDepends has one name at least
		} else if has[0] == "one" {
			size += 1
		} else if has[0] == "automaton" {
			size += 1 // number 0 has a state
		}
		sizeIs(t, rich(in(op, numbers...)), size)
	}
}

// P20.2 Size: of sets, names, automata and rows, by their numbers.
func TestSizeOfWhatIsNamed(t *testing.T) {
	for n, size := range []int{0, 6} { // [1,{"a":"x"}] has four values, the others one each
		sizeIs(t, rich(in(api.OpEqual, n)), empty+size)
	}
	for n, size := range []int{0, 1, 3} {
		sizeIs(t, rich(in(api.OpRequired, n)), empty+size)
		sizeIs(t, rich(in(api.OpRest, n, 0, 1)), empty+size)
		if n > 0 {
			sizeIs(t, rich(in(api.OpDepends, n)), empty+size)
		}
	}
	sizeIs(t, rich(in(api.OpProp, 1, 2)), empty+1)
	sizeIs(t, rich(in(api.OpLacks, 1, 1)), empty+1)
	for n, size := range []int{1, 2, 5} {
		sizeIs(t, rich(in(api.OpPattern, n)), empty+size)
		sizeIs(t, rich(in(api.OpMatching, n, 1)), empty+size)
	}
	for n, size := range []int{0, 5 + 2 + 5 + 3, 1 + 1} {
		sizeIs(t, rich(in(api.OpRest, 0, n, 1)), empty+size)
		sizeIs(t, rich(in(api.OpRest, 2, n, 1)), empty+size+3)
	}
}

// P20.2 Size: numbers, counts, routines, kinds count for nothing, however great; what several name counts for each.
func TestSizeOfSeveral(t *testing.T) {
	c := rich(in(api.OpMax, 0), in(api.OpLongest, 1000000000), in(api.OpCall, 2), in(api.OpItems, 1000000000, 1), in(api.OpType, 127), in(api.OpClear, 7))
	sizeIs(t, c, empty-1+6)
	c = rich(in(api.OpEqual, 1), in(api.OpEqual, 1), in(api.OpEqual, 0), in(api.OpRest, 2, 1, 1), in(api.OpRest, 2, 1, 2), in(api.OpPattern, 2), in(api.OpMatching, 2, 0))
	sizeIs(t, c, empty-1+7+2*6+2*(3+15)+2*5)
	sizeIs(t, plainly([]int{0, 1, 2}, done(), done(), done()), 6)
}

// P20.2 Size: a row with one automaton, that names no states of its own.
func TestSizeOfARow(t *testing.T) {
	c := rich(in(api.OpRest, 0, 1, 0))
	c.Rows[1] = []int{0}
	sizeIs(t, c, empty+2)
	c.Rows[1] = []int{0, 0, 0}
	sizeIs(t, c, empty+6)
	c.Rows[1] = nil
	sizeIs(t, c, empty)
}

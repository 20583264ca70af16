package code

import (
	"slices"

	"caliper/api"
	"caliper/dec"
	"caliper/loops"
	"caliper/nfa"
	"caliper/utf"
	"caliper/value"
)

// greatestCount is the most that a count or a place may be.
const greatestCount = 1000000000

// allKinds has the bits of all kinds.
const allKinds = api.BitNull | api.BitBoolean | api.BitNumber | api.BitString | api.BitArray | api.BitObject | api.BitInteger

// mayBe tells whether code may be. How many instructions there are is asked ahead of all, and constants ahead of what names them, so that instructions need not ask these again.
func mayBe(c *api.Code) bool {
	return len(c.Ins) >= 1 && len(c.Ins) <= api.MaxCode && routinesFit(c) && constantsFit(c) && instructionsFit(c) && !hasCycle(c)
}

// routinesFit tells whether the routines part the instructions, each with a last one that ends it.
func routinesFit(c *api.Code) bool {
	if len(c.Routines) == 0 || c.Routines[0] != 0 {
		return false
	}
	for r, from := range c.Routines {
		to := endOf(c, r)
		if to <= from || to > len(c.Ins) || !isEnd(c.Ins[to-1].Op) {
			return false
		}
	}
	return true
}

// endOf answers the number behind a routine's last instruction.
func endOf(c *api.Code, r int) int {
	if r+1 < len(c.Routines) {
		return c.Routines[r+1]
	}
	return len(c.Ins)
}

func isEnd(op api.Op) bool {
	return op == api.OpDone || op == api.OpNever
}

func constantsFit(c *api.Code) bool {
	valuesFit := func(values []api.Value) bool {
		return allAre(values, func(v api.Value) bool { return value.Check(v) == api.OK })
	}
	numberFits := func(d api.Dec) bool { return dec.Check(d) == api.OK }
	namesFit := func(texts []string) bool { return allAre(texts, isText) }
	automatonFits := func(states []api.State) bool { return nfa.Check(states) == api.OK }
	rowFits := func(numbers []int) bool {
		return allAre(numbers, func(n int) bool { return isOneOf(c.Automata, n) })
	}
	return allAre(c.Sets, valuesFit) && allAre(c.Nums, numberFits) && allAre(c.Names, namesFit) &&
		allAre(c.Automata, automatonFits) && allAre(c.Rows, rowFits)
}

func instructionsFit(c *api.Code) bool {
	for r, from := range c.Routines {
		to := endOf(c, r)
		for at := from; at < to; at++ {
			isTarget := func(n int) bool { return n > at && n < to }
			if !instructionFits(c, c.Ins[at], isTarget) {
				return false
			}
		}
	}
	return true
}

// instructionFits tells whether an instruction has what its op needs. Which ones are targets hangs on where it stands.
func instructionFits(c *api.Code, i api.Ins, isTarget func(n int) bool) bool {
	fits := func(o operand, n int) bool {
		if o == target {
			return isTarget(n)
		}
		return operandFits(c, o, n)
	}
	return areAll(i, fits) && isEnough(c, i)
}

// operandFits tells whether a number may stand for an operand, which is no target.
func operandFits(c *api.Code, o operand, n int) bool {
	switch o {
	case kinds:
		return isUpTo(allKinds, n)
	case set:
		return isOneOf(c.Sets, n)
	case number:
		return isOneOf(c.Nums, n)
	case names:
		return isOneOf(c.Names, n)
	case automaton:
		return isOneOf(c.Automata, n)
	case row:
		return isOneOf(c.Rows, n)
	case routine:
		return isOneOf(c.Routines, n)
	case register:
		return isUpTo(api.Registers-1, n)
	case count:
		return isUpTo(greatestCount, n)
	}
	return n == 0
}

// isEnough tells whether the number and the names of an instruction are such that it has something to ask. A number that may be is above nought, if it has digits and no sign.
func isEnough(c *api.Code, i api.Ins) bool {
	switch i.Op {
	case api.OpMultiple:
		return c.Nums[i.A].Digits != "" && !c.Nums[i.A].Neg
	case api.OpDepends:
		return len(c.Names[i.A]) >= 1
	case api.OpLacks, api.OpProp:
		return len(c.Names[i.A]) == 1
	}
	return true
}

func hasCycle(c *api.Code) bool {
	_, found := loops.Cycle(len(c.Routines), callsOf(c))
	return found
}

// allAre tells whether all elements of a list are such.
func allAre[T any](list []T, such func(T) bool) bool {
	return !slices.ContainsFunc(list, func(element T) bool { return !such(element) })
}

// isOneOf tells whether a number is that of an element of a list.
func isOneOf[T any](list []T, n int) bool {
	return n >= 0 && n < len(list)
}

func isUpTo(most int, n int) bool {
	return n >= 0 && n <= most
}

func isText(s string) bool {
	_, ok := utf.Good([]byte(s))
	return ok
}

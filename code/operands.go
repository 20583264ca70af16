package code

import "caliper/api"

// operand says what a number of an instruction is the number of.
type operand int

const (
	nothing operand = iota // the op has no number there
	kinds
	set
	number
	names
	automaton
	row
	routine
	register
	count // of what is counted, or of a place
	target
)

// operands are those of A, B and C: what an op has stands ahead of what it has not.
type operands [3]operand

// numbersOf answers the numbers that an instruction has for its operands.
func numbersOf(i api.Ins) [3]int {
	return [3]int{i.A, i.B, i.C}
}

// operandsOf answers what an op has, and whether it is one.
func operandsOf(op api.Op) (operands, bool) {
	switch op {
	case api.OpDone, api.OpNever, api.OpUnique:
		return operands{}, true
	case api.OpType:
		return operands{kinds}, true
	case api.OpEqual:
		return operands{set}, true
	case api.OpMultiple, api.OpMax, api.OpMaxOut, api.OpMin, api.OpMinOut:
		return operands{number}, true
	case api.OpLongest, api.OpShortest, api.OpMostItems, api.OpLeastItems, api.OpMostProps, api.OpLeastProps:
		return operands{count}, true
	case api.OpPattern:
		return operands{automaton}, true
	case api.OpRequired, api.OpDepends:
		return operands{names}, true
	case api.OpCall, api.OpNames:
		return operands{routine}, true
	case api.OpTry, api.OpProbe, api.OpCount:
		return operands{routine, register}, true
	case api.OpClear:
		return operands{register}, true
	case api.OpAtLeast, api.OpAtMost:
		return operands{register, count}, true
	case api.OpZero:
		return operands{register, target}, true
	case api.OpGo:
		return operands{target}, true
	case api.OpLacks:
		return operands{names, target}, true
	case api.OpUnless:
		return operands{kinds, target}, true
	case api.OpPrefix, api.OpItems:
		return operands{count, routine}, true
	case api.OpProp:
		return operands{names, routine}, true
	case api.OpMatching:
		return operands{automaton, routine}, true
	case api.OpRest:
		return operands{names, row, routine}, true
	case api.OpLeft:
		return operands{kinds, routine}, true
	}
	return operands{}, false
}

// areAll tells whether all numbers of an instruction are such, each asked as the operand that its op has there.
func areAll(i api.Ins, such func(o operand, n int) bool) bool {
	has, ok := operandsOf(i.Op)
	for place, n := range numbersOf(i) {
		ok = ok && such(has[place], n)
	}
	return ok
}

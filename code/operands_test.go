package code

import (
	"strings"
	"testing"

	"caliper/api"
)

// told says of each op, by its number, what it has in A, B and C.
const told = `
1
2
3 kinds
4 set
5 multiple
6 number
7 number
8 number
9 number
10 count
11 count
12 automaton
13 count
14 count
15
16 count
17 count
18 names
19 some
20 called
21 called register
22 called register
23 register
24 register count
25 register count
26 register target
27 target
28 one target
29 kinds target
30 count routine
31 count routine
32 routine register
33 one routine
34 automaton routine
35 names row routine
36 routine
37 kinds routine
`

// hasOf answers what an op has.
func hasOf(op api.Op) []string {
	return strings.Fields(strings.Split(told, "\n")[op])[1:]
}

// at is where an instruction that is asked stands in its routine, which ends with number end-1.
const (
	at  = 2
	end = 6
)

// numbers are some that may stand there, and some that may not: of rich code with three routines, of which number 0 is the instruction's own.
func numbers(has string) (good []int, bad []int) {
	const least, greatest = -1 << 63, 1<<63 - 1
	switch has {
	case "kinds":
		return []int{0, 1, 64, 126, 127}, []int{-1, 128, least, greatest}
	case "set":
		return []int{0, 1}, []int{-1, 2, least, greatest}
	case "multiple":
		return []int{0}, []int{1, 2, 3, -1, least, greatest}
	case "number", "names", "automaton", "row", "routine":
		return []int{0, 1, 2}, []int{-1, 3, least, greatest}
	case "some":
		return []int{1, 2}, []int{0, 3, -1, least, greatest}
	case "one":
		return []int{1}, []int{0, 2, 3, -1, least, greatest}
	case "called":
		return []int{1, 2}, []int{0, 3, -1, least, greatest} // 0 is the routine itself, so that is a cycle
	case "register":
		return []int{0, 3, 7}, []int{-1, 8, least, greatest}
	case "count":
		return []int{0, 1, 999999999, 1000000000}, []int{-1, 1000000001, least, greatest}
	case "target":
		return []int{at + 1, at + 2, end - 1}, []int{at, at - 1, 0, -1, end, end + 1, end + 2, end + 3, end + 20, least, greatest}
	}
	return []int{0}, []int{1, -1, 2, least, greatest}
}

// fine are numbers that an op may have, where its instruction is that of a number from 0 to at.
func fine(op api.Op, where int) []int {
	var all []int
	for _, has := range hasOf(op) {
		good, _ := numbers(has)
		n := good[0]
		if has == "target" {
			n -= at - where
		}
		all = append(all, n)
	}
	return append(all, 0, 0, 0)[:3]
}

// around puts an instruction where its number is at.
func around(i api.Ins) api.Code {
	return rich(in(api.OpUnique), in(api.OpUnique), i, in(api.OpUnique), in(api.OpUnique))
}

// P20.1: each of A, B and C at both ends of what it may be, and past them; of ops that have it and of those that have it not.
func TestOperands(t *testing.T) {
	for op := api.OpDone; op <= api.OpLeft; op++ {
		has := append(hasOf(op), "", "", "")
		for place := range 3 {
			good, bad := numbers(has[place])
			all := fine(op, at)
			for _, n := range good {
				all[place] = n
				takes(t, has[place], around(in(op, all...)))
			}
			for _, n := range bad {
				all[place] = n
				refuses(t, has[place], around(in(op, all...)))
			}
		}
	}
}

// P20.1: where there is nothing that a number might be of.
func TestNothingThere(t *testing.T) {
	c := rich(in(api.OpEqual))
	c.Sets = nil
	refuses(t, "no set", c)
	for op := api.OpMultiple; op <= api.OpMinOut; op++ {
		c = rich(in(op))
		c.Nums = nil
		refuses(t, "no number", c)
	}
	for _, op := range []api.Op{api.OpRequired, api.OpDepends, api.OpLacks, api.OpProp, api.OpRest} {
		c = rich(in(op, 0, 1))
		c.Names = nil
		refuses(t, "no names", c)
	}
	for _, op := range []api.Op{api.OpPattern, api.OpMatching} {
		c = rich(in(op))
		c.Automata, c.Rows = nil, nil
		refuses(t, "no automaton", c)
	}
	c = rich(in(api.OpRest))
	c.Rows = nil
	refuses(t, "no row", c)
	c = rich()
	c.Sets, c.Nums, c.Names, c.Automata, c.Rows = nil, nil, nil, nil, nil
	takes(t, "code without constants", c)
}

// P20.1: targets in the last routine, and in one that others stand ahead of.
func TestTargets(t *testing.T) {
	for target := -1; target <= 9; target++ {
		inFirst := plainly([]int{0, 3, 6}, done(), in(api.OpGo, target), done(), done(), done(), done(), done(), done())
		inSecond := plainly([]int{0, 3, 6}, done(), done(), done(), in(api.OpGo, target), done(), done(), done(), done())
		inLast := plainly([]int{0, 3, 6}, done(), done(), done(), done(), done(), done(), in(api.OpGo, target), done())
		for i, c := range []api.Code{inFirst, inSecond, inLast} {
			if ok := Check(c) == api.OK; ok != (i == 0 && target == 2 || i == 1 && (target == 4 || target == 5) || i == 2 && target == 7) {
				t.Error(i, target, ok)
			}
		}
	}
}

// P20.1: the number of OpMultiple alone has to be above nought, and names that no op asks may be as many as they like.
func TestSome(t *testing.T) {
	c := rich(in(api.OpMultiple, 0))
	for _, d := range []api.Dec{{Digits: "1", Exp: -api.MaxExp}, {Digits: "1", Exp: api.MaxExp}, {Digits: strings.Repeat("9", api.MaxDigits)}} {
		c.Nums[0] = d
		takes(t, "a number above nought", c)
	}
	for _, d := range []api.Dec{{}, {Neg: true, Digits: "1"}, {Neg: true, Digits: "1", Exp: -api.MaxExp}} {
		c.Nums[0] = d
		refuses(t, "a number that is not above nought", c)
	}
	for op := api.OpMax; op <= api.OpMinOut; op++ {
		for n := range 3 {
			takes(t, "nought, or below", rich(in(op, n)))
		}
	}
	for n := range 3 {
		if ok := Check(rich(in(api.OpDepends, n))) == api.OK; ok != (n > 0) {
			t.Error("OpDepends", n, ok)
		}
		for _, op := range []api.Op{api.OpLacks, api.OpProp} {
			if ok := Check(rich(in(op, n, 1))) == api.OK; ok != (n == 1) {
				t.Error(op, n, ok)
			}
		}
		takes(t, "OpRequired", rich(in(api.OpRequired, n)))
		takes(t, "OpRest", rich(in(api.OpRest, n)))
	}
	c = rich(in(api.OpProp, 1), in(api.OpLacks, 1, 2))
	for ok, names := range map[string][]string{"": {}, "one": {"x"}, "empty": {""}, "two": {"x", "y"}, "twice": {"x", "x"}} {
		c.Names[1] = names
		if (Check(c) == api.OK) != (ok == "one" || ok == "empty") {
			t.Error(names)
		}
	}
}

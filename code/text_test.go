package code

import (
	"strings"
	"testing"

	"caliper/api"
)

// P20.3: the text of each op, with as many numbers as it has.
func TestTextOfEachOp(t *testing.T) {
	c := rich(
		in(api.OpDone), in(api.OpNever), in(api.OpType, 127), in(api.OpEqual, 1), in(api.OpMultiple, 0), in(api.OpMax, 1), in(api.OpMaxOut, 2), in(api.OpMin, 0), in(api.OpMinOut, 1),
		in(api.OpLongest, 1000000000), in(api.OpShortest, 10), in(api.OpPattern, 2), in(api.OpMostItems, 13), in(api.OpLeastItems, 0), in(api.OpUnique), in(api.OpMostProps, 3), in(api.OpLeastProps, 4),
		in(api.OpRequired, 0), in(api.OpDepends, 2), in(api.OpCall, 1), in(api.OpTry, 2, 3), in(api.OpProbe, 1, 7), in(api.OpClear, 6), in(api.OpAtLeast, 5, 12), in(api.OpAtMost, 4, 999999999),
		in(api.OpZero, 3, 26), in(api.OpGo, 37), in(api.OpLacks, 1, 30), in(api.OpUnless, 48, 29), in(api.OpPrefix, 8, 0), in(api.OpItems, 9, 2), in(api.OpCount, 0, 1), in(api.OpProp, 1, 2),
		in(api.OpMatching, 1, 0), in(api.OpRest, 2, 1, 0), in(api.OpNames, 2), in(api.OpLeft, 32, 1),
	)
	want := `routine 0
0 done
1 never
2 type 127
3 equal 1
4 multiple 0
5 max 1
6 maxout 2
7 min 0
8 minout 1
9 longest 1000000000
10 shortest 10
11 pattern 2
12 mostitems 13
13 leastitems 0
14 unique
15 mostprops 3
16 leastprops 4
17 required 0
18 depends 2
19 call 1
20 try 2 3
21 probe 1 7
22 clear 6
23 atleast 5 12
24 atmost 4 999999999
25 zero 3 26
26 go 37
27 lacks 1 30
28 unless 48 29
29 prefix 8 0
30 items 9 2
31 count 0 1
32 prop 1 2
33 matching 1 0
34 rest 2 1 0
35 names 2
36 left 32 1
37 done
routine 1
38 type 3
39 never
routine 2
40 done
`
	takes(t, "all ops", c)
	if text := Text(c); text != want {
		t.Error(text)
	}
}

// P20.3: numbers that are 0 are written where the op has them, and only there.
func TestTextOfNoughts(t *testing.T) {
	for op := api.OpDone; op <= api.OpLeft; op++ {
		text := Text(rich(in(op, fine(op, 0)...)))
		line := strings.Split(text, "\n")[1]
		if got := strings.Count(line, " "); got != len(hasOf(op))+1 || !strings.HasPrefix(line, "0 ") || strings.Contains(line, "  ") || strings.HasSuffix(line, " ") {
			t.Errorf("%d: %q", op, line)
		}
	}
}

// P20.3: routines are told by their numbers among routines, instructions by theirs among all.
func TestTextOfRoutines(t *testing.T) {
	c := plainly([]int{0, 1, 4}, never(), in(api.OpGo, 3), in(api.OpUnique), done(), done(), never())
	if text := Text(c); text != "routine 0\n0 never\nroutine 1\n1 go 3\n2 unique\n3 done\nroutine 2\n4 done\n5 never\n" {
		t.Error(text)
	}
	c.Routines = []int{0}
	if text := Text(c); text != "routine 0\n0 never\n1 go 3\n2 unique\n3 done\n4 done\n5 never\n" {
		t.Error(text)
	}
	c.Routines = []int{0, 5, 4}
	refuses(t, "routines that fall", c)
}

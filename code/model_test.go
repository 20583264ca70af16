package code

import (
	"slices"
	"strconv"
	"strings"
	"testing"

	"caliper/api"
	"caliper/dec"
	"caliper/nfa"
	"caliper/utf"
	"caliper/value"
)

type chance uint64

func (c *chance) below(n int) int {
	*c = *c*6364136223846793005 + 1442695040888963407
	return int(uint64(*c>>33) % uint64(n))
}

// code is some that may mostly be: routines of a few instructions, that mostly call those behind them.
func (c *chance) code() api.Code {
	code := rich()
	code.Ins, code.Routines = nil, nil
	routines := 1 + c.below(5)
	for r := range routines {
		from := len(code.Ins)
		code.Routines = append(code.Routines, from)
		to := from + 1 + c.below(6)
		for len(code.Ins) < to-1 {
			code.Ins = append(code.Ins, c.instruction(len(code.Ins), to, r, routines))
		}
		code.Ins = append(code.Ins, in(api.OpDone+api.Op(c.below(2))))
	}
	return code
}

func (c *chance) instruction(at, end, r, routines int) api.Ins {
	op := api.OpDone + api.Op(c.below(37))
	var all []int
	for _, has := range hasOf(op) {
		n := 0
		switch has {
		case "target":
			n = at + 1 + c.below(end-at-1)
		case "called":
			n = r + 1 + c.below(3)
			if n >= routines {
				return in(api.OpUnique)
			}
		case "routine":
			n = c.below(routines)
		default:
			good, _ := numbers(has)
			n = good[c.below(len(good))]
		}
		all = append(all, n)
	}
	return in(op, all...)
}

// spoil changes something, by which code may no longer be code, or may.
func (c *chance) spoil(code *api.Code) {
	at, r := c.below(len(code.Ins)), c.below(len(code.Routines))
	i := &code.Ins[at]
	n := c.below(9) - 2
	switch c.below(10) {
	case 0:
		i.A = n
	case 1:
		i.B = n
	case 2:
		i.C = n
	case 3:
		i.Op = api.Op(c.below(40) - 1)
	case 4:
		code.Routines[r] += c.below(3) - 1
	case 5:
		code.Ins = code.Ins[:at]
	case 6:
		code.Rows[c.below(3)] = []int{n}
	case 7:
		code.Names[c.below(3)] = [][]string{{}, {"x"}, {"x", "y"}, {"\xff"}}[c.below(4)]
	case 8:
		i.Op, i.A = api.OpCall+api.Op(c.below(3)), c.below(len(code.Routines))
	case 9:
		code.Nums[c.below(3)] = []api.Dec{{}, {Digits: "1"}, {Neg: true, Digits: "1"}, {Neg: true}}[c.below(4)]
	}
}

// routineOf answers the routine of an instruction, by asking all, or -1.
func routineOf(c api.Code, at int) int {
	found := -1
	for r, from := range c.Routines {
		if from <= at {
			found = r
		}
	}
	return found
}

// modelCalls are the calls, as the chapter says it.
func modelCalls(c api.Code) []api.Edge {
	var calls []api.Edge
	for at, i := range c.Ins {
		r := routineOf(c, at)
		if i.Op >= api.OpCall && i.Op <= api.OpProbe && r >= 0 && i.A >= 0 && i.A < len(c.Routines) {
			calls = append(calls, api.Edge{From: r, To: i.A, Same: true})
		}
	}
	return calls
}

// modelCheck tells whether code may be, as the chapter says it, with the calls' ways as long as there are routines.
func modelCheck(c api.Code) bool {
	if len(c.Ins) < 1 || len(c.Ins) > api.MaxCode || len(c.Routines) < 1 || c.Routines[0] != 0 || !slices.IsSorted(c.Routines) {
		return false
	}
	begins := map[int]int{len(c.Ins): 1}
	for _, from := range c.Routines {
		begins[from]++
		if from >= len(c.Ins) || begins[from] > 1 {
			return false
		}
	}
	for at, i := range c.Ins {
		if begins[at+1] > 0 && i.Op != api.OpDone && i.Op != api.OpNever || !modelInstruction(c, at) {
			return false
		}
	}
	return modelConstants(c) && !modelCycle(c)
}

func modelConstants(c api.Code) bool {
	ok := true
	for _, set := range c.Sets {
		for _, v := range set {
			ok = ok && value.Check(v) == api.OK
		}
	}
	for _, d := range c.Nums {
		ok = ok && dec.Check(d) == api.OK
	}
	for _, names := range c.Names {
		for _, name := range names {
			_, good := utf.Good([]byte(name))
			ok = ok && good
		}
	}
	for _, l := range c.Automata {
		ok = ok && nfa.Check(l) == api.OK
	}
	for _, row := range c.Rows {
		for _, n := range row {
			ok = ok && n >= 0 && n < len(c.Automata)
		}
	}
	return ok
}

func modelInstruction(c api.Code, at int) bool {
	i := c.Ins[at]
	if i.Op < 1 || i.Op > 37 {
		return false
	}
	has := append(hasOf(i.Op), "", "", "")
	for place, n := range []int{i.A, i.B, i.C} {
		most := 0
		switch has[place] {
		case "kinds":
			most = 127
		case "set":
			most = len(c.Sets) - 1
		case "number", "multiple":
			most = len(c.Nums) - 1
		case "names", "some", "one":
			most = len(c.Names) - 1
		case "automaton":
			most = len(c.Automata) - 1
		case "row":
			most = len(c.Rows) - 1
		case "routine", "called":
			most = len(c.Routines) - 1
		case "register":
			most = 7
		case "count":
			most = 1000000000
		case "target":
			most = len(c.Ins) - 1
		}
		if n < 0 || n > most {
			return false
		}
		if has[place] == "target" && (n <= at || routineOf(c, n) != routineOf(c, at)) ||
			has[place] == "one" && len(c.Names[n]) != 1 || has[place] == "some" && len(c.Names[n]) == 0 {
			return false
		}
		if has[place] == "multiple" {
			if order, _ := dec.Compare(c.Nums[n], api.Dec{}); order <= 0 {
				return false
			}
		}
	}
	return true
}

// modelCycle tells whether calls lead on and on: whether some way of them is longer than there are routines.
func modelCycle(c api.Code) bool {
	from := map[int]int{}
	for r := range c.Routines {
		from[r] = 1
	}
	for range c.Routines {
		next := map[int]int{}
		for _, e := range modelCalls(c) {
			if from[e.From] > 0 {
				next[e.To] = 1
			}
		}
		from = next
	}
	return len(from) > 0
}

func modelSize(c api.Code) int {
	size := len(c.Ins) + len(c.Routines)
	for _, i := range c.Ins {
		has := append(hasOf(i.Op), "", "")
		switch has[0] {
		case "set":
			for _, v := range c.Sets[i.A] {
				size += value.Size(v)
			}
		case "names", "some", "one":
			size += len(c.Names[i.A])
		case "automaton":
			size += len(c.Automata[i.A])
		}
		if has[1] == "row" {
			for _, n := range c.Rows[i.B] {
				size += len(c.Automata[n]) + 1
			}
		}
	}
	return size
}

func modelText(c api.Code) string {
	words := strings.Split(`done never type equal multiple max maxout min minout longest shortest pattern mostitems leastitems unique mostprops leastprops required depends call try probe clear atleast atmost zero go lacks unless prefix items count prop matching rest names left`, " ")
	text := ""
	for at, i := range c.Ins {
		if r := slices.Index(c.Routines, at); r >= 0 {
			text += "routine " + strconv.Itoa(r) + "\n"
		}
		text += strconv.Itoa(at) + " " + words[i.Op-1]
		for place := range hasOf(i.Op) {
			text += " " + strconv.Itoa([]int{i.A, i.B, i.C}[place])
		}
		text += "\n"
	}
	return text
}

// P20.1 to P20.3 against the chapter's words, on code of chance.
func TestModel(t *testing.T) {
	c := chance(2020)
	taken, refused := 0, 0
	for range 20000 {
		code := c.code()
		for range c.below(3) {
			if len(code.Ins) > 0 {
				c.spoil(&code)
			}
		}
		if calls := Calls(code); !slices.Equal(calls, modelCalls(code)) {
			t.Fatal(calls, code.Ins, code.Routines)
		}
		if !modelCheck(code) {
			refused++
			refuses(t, "code of chance", code)
			continue
		}
		taken++
		takes(t, "code of chance", code)
		if Size(code) != modelSize(code) || Text(code) != modelText(code) {
			t.Fatal(Size(code), Text(code), modelSize(code), modelText(code))
		}
	}
	if taken < 5000 || refused < 5000 {
		t.Error(taken, refused)
	}
}

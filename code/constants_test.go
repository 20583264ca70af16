package code

import (
	"slices"
	"strings"
	"testing"

	"caliper/api"
)

// deep is an array of so many levels.
func deep(levels int) api.Value {
	v := api.Value{Kind: api.Array}
	for range levels - 1 {
		v = api.Value{Kind: api.Array, List: []api.Value{v}}
	}
	return v
}

// P20.1: numbers that may not be, also where no instruction names them.
func TestNumbers(t *testing.T) {
	for _, d := range []api.Dec{{}, {Neg: true, Digits: "7"}, {Digits: "1", Exp: api.MaxExp}, {Digits: strings.Repeat("1", api.MaxDigits), Exp: -api.MaxExp}} {
		c := rich()
		c.Nums[2] = d
		takes(t, "a number", c)
	}
	for _, d := range []api.Dec{{Neg: true}, {Exp: 1}, {Digits: "10"}, {Digits: "01"}, {Digits: "0"}, {Digits: "-1"}, {Digits: "1.5"}, {Digits: "1", Exp: api.MaxExp + 1}, {Digits: "1", Exp: -api.MaxExp - 1}, {Digits: strings.Repeat("1", api.MaxDigits+1)}} {
		for place := range 3 {
			c := rich(in(api.OpMax, 2))
			c.Nums[place] = d
			refuses(t, "no number", c)
		}
	}
}

// P20.1: values that may not be, in whichever set and however deep.
func TestValues(t *testing.T) {
	for _, v := range []api.Value{{}, parsed(`{"a":[{"b":"é"}]}`), deep(api.MaxDepth)} {
		c := rich()
		c.Sets[0] = []api.Value{v}
		takes(t, "a value", c)
		c.Sets = append(c.Sets, []api.Value{v, v})
		takes(t, "a value in a set of its own", c)
	}
	for _, v := range []api.Value{
		{Kind: 7}, {Kind: -1}, {Kind: api.Null, Text: "a"}, {Kind: api.String, Text: "\xff"}, {Kind: api.Number, Num: api.Dec{Digits: "10"}},
		{Kind: api.Object, Keys: []string{"a"}}, {Kind: api.Object, Keys: []string{"a", "a"}, List: []api.Value{{}, {}}}, {Kind: api.Array, List: []api.Value{{Kind: 9}}}, deep(api.MaxDepth + 1),
	} {
		for set := range 2 {
			c := rich()
			c.Sets[set] = append(c.Sets[set], v)
			refuses(t, "no value", c)
			c.Sets[set] = append(c.Sets[set], api.Value{})
			refuses(t, "no value, with another behind it", c)
		}
	}
}

// P20.1: automata that may not be; their sizes have no end of their own.
func TestAutomata(t *testing.T) {
	great := make([]api.State, api.MaxStates+1)
	for i := range great {
		great[i].Kind = api.StDone
	}
	set := []api.Range{{From: 97, To: 97}}
	for _, l := range [][]api.State{{{Kind: api.StDone}}, {{Kind: api.StSet, Ranges: set, A: 1}, {Kind: api.StDone}}, {{Kind: api.StFork, A: 0, B: 0}}, great} {
		c := rich()
		c.Automata[2] = l
		takes(t, "an automaton", c)
	}
	for _, l := range [][]api.State{
		nil, {}, {{}}, {{Kind: 8}}, {{Kind: api.StDone, A: 1}}, {{Kind: api.StFork, A: 0, B: 1}}, {{Kind: api.StSet, Ranges: set, A: 1}}, {{Kind: api.StSet, Ranges: set, A: -1}},
		{{Kind: api.StBegin, B: 1}, {Kind: api.StDone}}, {{Kind: api.StDone, Ranges: set}}, {{Kind: api.StSet, Ranges: []api.Range{{From: 5, To: 4}}}}, {{Kind: api.StSet, Ranges: []api.Range{{From: 1, To: 2}, {From: 3, To: 4}}}},
	} {
		for place := range 3 {
			c := rich(in(api.OpPattern, 1))
			c.Automata[place] = l
			refuses(t, "no automaton", c)
		}
	}
}

// P20.1: names that are no UTF-8, also where nobody names them; any that are.
func TestNames(t *testing.T) {
	for _, name := range []string{"", "\x00", "é", "\U0010ffff", strings.Repeat("ab", api.MaxBytes)} {
		c := rich()
		c.Names[0] = []string{name, "a", name}
		takes(t, "a name", c)
	}
	for _, name := range []string{"\xff", "a\xe2\x82", "\xed\xa0\x80", "\xc0\x80", "\xf4\x90\x80\x80"} {
		for list := range 3 {
			for place := range len(rich().Names[list]) + 1 {
				c := rich()
				c.Names[list] = slices.Insert(c.Names[list], place, name)
				refuses(t, "no name", c)
			}
		}
	}
}

// P20.1: rows name automata that are there; also the same one several times.
func TestRows(t *testing.T) {
	for _, row := range [][]int{{}, {0}, {2}, {0, 1, 2}, {2, 2, 0}} {
		c := rich()
		c.Rows[1] = row
		takes(t, "a row", c)
	}
	for _, row := range [][]int{{-1}, {3}, {0, 3}, {3, 0}, {0, -1, 2}, {1 << 62}, {-1 << 63}} {
		for place := range 3 {
			c := rich(in(api.OpRest, 0, 1, 1))
			c.Rows[place] = row
			refuses(t, "no row", c)
		}
	}
	c := rich()
	c.Automata = nil
	refuses(t, "rows of nothing", c)
	c.Rows = [][]int{{}, {}}
	takes(t, "empty rows of nothing", c)
}

package code

import (
	"reflect"
	"slices"
	"testing"

	"caliper/api"
)

// full names constants of all kinds, some of them one and the same.
func full() api.Code {
	c := rich(in(api.OpEqual, 1), in(api.OpCall, 1), in(api.OpRest, 2, 1, 0), in(api.OpMultiple, 0), in(api.OpPattern, 2), in(api.OpTry, 2, 1))
	c.Sets = append(c.Sets, c.Sets[1])
	c.Automata = append(c.Automata, c.Automata[2])
	c.Names = append(c.Names, c.Names[2])
	c.Rows = append(c.Rows, c.Rows[1])
	return c
}

// R3: what is handed in stays as it was, and answers know nothing of it; of code that may be, and of code that may not.
func TestHandedInStays(t *testing.T) {
	bad := func(spoil func(c *api.Code)) func() api.Code {
		return func() api.Code {
			c := full()
			spoil(&c)
			return c
		}
	}
	for _, made := range []func() api.Code{
		full, bad(func(c *api.Code) { c.Ins[2].C = 9 }), bad(func(c *api.Code) { c.Routines[1] = 99 }), bad(func(c *api.Code) { c.Routines = nil }), bad(func(c *api.Code) { c.Ins[3].Op = -4 }),
		bad(func(c *api.Code) { c.Sets[0] = []api.Value{{Kind: 9}} }), bad(func(c *api.Code) { c.Nums[2].Digits = "x" }), bad(func(c *api.Code) { c.Names[3][1] = "\xff" }),
		bad(func(c *api.Code) { c.Automata[0] = nil }), bad(func(c *api.Code) { c.Rows[0] = []int{-1} }), bad(func(c *api.Code) { c.Ins[5].A = 0 }),
	} {
		c := made()
		errno, size, text, calls := Check(c), Size(c), Text(c), Calls(c)
		was := slices.Clone(calls)
		for i := range calls {
			calls[i] = api.Edge{From: -1}
		}
		_ = append(calls, api.Edge{})
		if !reflect.DeepEqual(c, made()) {
			t.Errorf("changed: %+v", c)
		}
		if Check(c) != errno || Size(c) != size || Text(c) != text || !slices.Equal(Calls(c), was) {
			t.Error("the same call answers something else:", errno, size, text, was)
		}
		again := Calls(c)
		clear(c.Ins)
		clear(c.Routines)
		if !slices.Equal(again, was) {
			t.Error("what was handed in is kept:", again)
		}
	}
}

// R7: what stands in the room behind a list's end is nobody's.
func TestRoomBehind(t *testing.T) {
	c := full()
	text, calls := Text(c), Calls(c)
	c.Ins = append(c.Ins, in(99), in(api.OpCall, 0))[:len(c.Ins)]
	c.Routines = append(c.Routines, -1, 0)[:len(c.Routines)]
	c.Rows = append(c.Rows, []int{-1})[:len(c.Rows)]
	c.Sets = append(c.Sets, []api.Value{{Kind: 9}})[:len(c.Sets)]
	c.Names = append(c.Names, []string{"\xff"})[:len(c.Names)]
	if Check(c) != api.OK || Text(c) != text || !slices.Equal(Calls(c), calls) {
		t.Error(Check(c), Text(c), Calls(c))
	}
}

package code

import (
	"runtime/debug"
	"slices"
	"strings"
	"testing"

	"caliper/api"
)

// P20.1: as many routines as there may be, each of which calls the next one; the last one the first, or itself.
func TestLongCalls(t *testing.T) {
	defer debug.SetMaxStack(debug.SetMaxStack(1 << 20))
	const n = api.MaxCode / 2
	c := api.Code{}
	for r := range n {
		c.Routines = append(c.Routines, 2*r)
		c.Ins = append(c.Ins, in(api.OpProbe, r+1), done())
	}
	last := len(c.Ins) - 2
	c.Ins[last] = in(api.OpUnique)
	if errno := Check(c); errno != api.OK {
		t.Error(errno)
	}
	if calls := Calls(c); len(calls) != n-1 || calls[n-2] != to(n-2, n-1)[0] {
		t.Error(len(calls))
	}
	if n := Size(c); n != 3*api.MaxCode/2 {
		t.Error(n)
	}
	for _, r := range []int{0, n / 2, n - 1} {
		c.Ins[last] = in(api.OpTry, r)
		if errno := Check(c); errno != api.ErrCode {
			t.Error(r, errno)
		}
	}
	slices.Reverse(c.Routines) // routines that fall are still asked for quickly
	if calls := Calls(c); len(calls) != n || calls[0].From != n-1 {
		t.Error(len(calls))
	}
}

// P20.1 and P20.2: very many instructions that name the same great constants.
func TestManyOfTheSame(t *testing.T) {
	const n = api.MaxCode - 1
	c := rich(make([]api.Ins, n)...)
	c.Ins, c.Routines = c.Ins[:n+1], []int{0}
	values := make([]api.Value, 1000000)
	texts := make([]string, 1000000)
	numbers := make([]int, 1000000)
	c.Sets[1], c.Names[2], c.Rows[1] = values, texts, numbers
	c.Nums[0] = api.Dec{Digits: strings.Repeat("7", api.MaxDigits)}
	for op, size := range map[api.Op]int{api.OpEqual: 1000000, api.OpRequired: 1000000, api.OpDepends: 1000000, api.OpMultiple: 0, api.OpRest: 3000000} {
		numbers := map[api.Op][]int{api.OpEqual: {1}, api.OpRequired: {2}, api.OpDepends: {2}, api.OpMultiple: {0}, api.OpRest: {2, 1, 0}}[op]
		for at := range n {
			c.Ins[at] = in(op, numbers...)
		}
		c.Ins[n] = done()
		if got := Size(c); got != n*(size+1)+2 {
			t.Error(op, got)
		}
	}
}

// P20.1 and P20.3: one routine with a target each, the text of which is long.
func TestLongRoutine(t *testing.T) {
	c := plainly([]int{0}, make([]api.Ins, api.MaxCode)...)
	last := api.MaxCode - 1
	for at := range last {
		c.Ins[at] = in(api.OpZero, at%8, last)
	}
	c.Ins[last] = never()
	takes(t, "a long routine", c)
	text := Text(c)
	if !strings.HasSuffix(text, "\n1048574 zero 6 1048575\n1048575 never\n") || strings.Count(text, "\n") != api.MaxCode+1 {
		t.Error(len(text))
	}
	c.Ins[last-1].B = api.MaxCode
	if errno := Check(c); errno != api.ErrCode {
		t.Error(errno)
	}
}

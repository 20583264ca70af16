package code

import (
	"strings"
	"testing"

	"caliper/api"
	"caliper/json"
	"caliper/nfa"
	"caliper/rx"
)

// in is an instruction.
func in(op api.Op, numbers ...int) api.Ins {
	i := api.Ins{Op: op}
	for place, to := range []*int{&i.A, &i.B, &i.C} {
		if place < len(numbers) {
			*to = numbers[place]
		}
	}
	return i
}

func done() api.Ins { return in(api.OpDone) }

func never() api.Ins { return in(api.OpNever) }

// plainly is code that names no constants.
func plainly(routines []int, ins ...api.Ins) api.Code {
	return api.Code{Ins: ins, Routines: routines}
}

func parsed(text string) api.Value {
	v, _, errno := json.Parse([]byte(text))
	if errno != api.OK {
		panic(text)
	}
	return v
}

func states(pattern string) []api.State {
	tree, errno := rx.Parse(pattern)
	if errno != api.OK {
		panic(pattern)
	}
	l, _ := nfa.Compile(tree, api.MaxStates)
	return l
}

// rich has constants of each kind, unlike in size, and the instructions in routine 0 of three: it takes up from 0 to the OpDone that is put behind them.
func rich(ins ...api.Ins) api.Code {
	n := len(ins) + 1
	return api.Code{
		Ins:      append(append([]api.Ins{}, ins...), done(), in(api.OpType, 3), never(), done()),
		Routines: []int{0, n, n + 2},
		Sets:     [][]api.Value{{}, {parsed(`[1,{"a":"x"}]`), parsed("null"), parsed("1.5")}},
		Nums:     []api.Dec{{Digits: "15", Exp: -1}, {}, {Neg: true, Digits: "2"}},
		Names:    [][]string{{}, {"é"}, {"a", "", "a"}},
		Automata: [][]api.State{states(""), states("a"), states("a|b")}, // 1, 2 and 5 states
		Rows:     [][]int{{}, {2, 1, 2}, {0}},
	}
}

func takes(t *testing.T, what string, c api.Code) {
	t.Helper()
	if errno := Check(c); errno != api.OK {
		t.Errorf("%s is refused with %d: %+v", what, errno, c.Ins)
	}
}

// refuses asks besides that code which may not be has neither a size nor a text.
func refuses(t *testing.T, what string, c api.Code) {
	t.Helper()
	if errno := Check(c); errno != api.ErrCode {
		t.Errorf("%s has the errno %d", what, errno)
	}
	if n, text := Size(c), Text(c); n != 0 || text != "" {
		t.Errorf("%s: size %d, text of %d bytes", what, n, len(text))
	}
}

// The chapter's example.
func TestExample(t *testing.T) {
	c := plainly([]int{0}, in(api.OpType, 2), done())
	takes(t, "the example", c)
	if text := Text(c); text != "routine 0\n0 type 2\n1 done\n" {
		t.Errorf("%q", text)
	}
	if n := Size(c); n != 3 {
		t.Error(n)
	}
	if calls := Calls(c); len(calls) != 0 {
		t.Error(calls)
	}
}

// P20.1: what has no instruction or no routine, however much else it has.
func TestNothing(t *testing.T) {
	refuses(t, "nothing", api.Code{})
	refuses(t, "no instruction", plainly([]int{0}))
	refuses(t, "no routine", plainly(nil, done()))
	refuses(t, "no routine, but room for it", plainly([]int{0}[:0], done()))
	refuses(t, "no instruction, but room for it", plainly([]int{0}, []api.Ins{done()}[:0]...))
	c := rich()
	c.Ins = nil
	refuses(t, "constants alone", c)
	c = rich()
	c.Routines = nil
	refuses(t, "no routines of the rich", c)
	takes(t, "the least", plainly([]int{0}, done()))
	takes(t, "the other least", plainly([]int{0}, never()))
	takes(t, "the rich", rich())
}

// P20.1: how many instructions.
func TestMostInstructions(t *testing.T) {
	ins := make([]api.Ins, api.MaxCode+1)
	for i := range ins {
		ins[i] = done()
	}
	most := plainly([]int{0}, ins[:api.MaxCode]...)
	takes(t, "as many as may be", most)
	if n := Size(most); n != api.MaxCode+1 {
		t.Error(n)
	}
	if n := strings.Count(Text(most), "\n"); n != api.MaxCode+1 {
		t.Error(n)
	}
	refuses(t, "one more", plainly([]int{0}, ins...))
	all := make([]int, api.MaxCode+1)
	for i := range all {
		all[i] = i
	}
	takes(t, "a routine each", plainly(all[:api.MaxCode], ins[:api.MaxCode]...))
	refuses(t, "one more, a routine each", plainly(all, ins...))
	refuses(t, "a routine more than instructions", plainly(all, ins[:api.MaxCode]...))
}

// P20.1: where routines begin and how they end.
func TestRoutines(t *testing.T) {
	four := []api.Ins{done(), never(), in(api.OpUnique), done()}
	for _, routines := range [][]int{{0}, {0, 1}, {0, 2}, {0, 1, 2}} {
		takes(t, "routines", plainly(routines, four...))
	}
	for _, routines := range [][]int{
		{1}, {-1}, {3}, {4}, {1, 2}, {-1, 0}, {-2, 1}, {2, 0}, {0, 0}, {0, 1, 1}, {0, 2, 1}, {0, 1, 0}, {0, -1}, {0, 4}, {0, 5}, {0, 2, 4}, {0, 1 << 62}, {0, -1 << 63},
		{0, 3}, {0, 1, 3}, {0, 2, 3}, // these end one with OpUnique
	} {
		refuses(t, "routines that may not be", plainly(routines, four...))
	}
	if errno := Check(plainly([]int{0, 3}, four...)); errno != api.ErrCode {
		t.Error(errno)
	}
}

// P20.1: which instructions end a routine, the last one and others.
func TestRoutinesEnd(t *testing.T) {
	for op := api.OpDone; op <= api.OpLeft; op++ {
		last, between := rich(), rich(anyOf(op))
		last.Ins[len(last.Ins)-1] = anyOf(op)
		if op == api.OpDone || op == api.OpNever {
			takes(t, "at the end", last)
			takes(t, "and ahead of it", between)
			continue
		}
		refuses(t, "the end of the last one", last)
		first := rich(anyOf(op))
		first.Ins = append(first.Ins[:1], first.Ins[2:]...) // without its OpDone
		first.Routines = []int{0, 1, 3}
		refuses(t, "the end of the first one", first)
	}
}

// anyOf is an instruction that may stand as the first of a routine in rich code, with an instruction behind it.
func anyOf(op api.Op) api.Ins {
	return in(op, fine(op, 0)...)
}

// P20.1: an instruction whose op is none.
func TestNoOp(t *testing.T) {
	for _, op := range []api.Op{-1 << 63, -1, 0, 38, 39, 1 << 62} {
		refuses(t, "no op", rich(in(op)))
		refuses(t, "no op at the end", plainly([]int{0}, in(op)))
		c := rich()
		c.Ins[1].Op = op
		refuses(t, "no op further on", c)
	}
}

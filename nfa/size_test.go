package nfa

import (
	"math"
	"testing"

	"caliper/api"
)

// sized asks for a tree's Size with a most, and that Compile takes or refuses it likewise.
func sized(t *testing.T, x api.Rx, most int, want int) {
	t.Helper()
	n, e := Size(x, most)
	if e != api.OK || n != want {
		t.Errorf("Size, most %d: %d, %d, not %d", most, n, e, want)
	}
	l, e := Compile(x, most)
	if want > most || want > 65536 {
		if e != api.ErrStates || len(l) != 0 {
			t.Errorf("Compile, most %d: %d states, %d", most, len(l), e)
		}
	} else if e != api.OK || len(l) != want || Check(l) != api.OK {
		t.Errorf("Compile, most %d: %d states, %d", most, len(l), e)
	}
}

// ofSize is a tree with so many states, of counts that stand in a row.
func ofSize(n int) api.Rx {
	a := char('a')
	all := []api.Rx{empty(), empty()}
	for n--; n > 0; n -= 1000 {
		all = append(all, times(min(n, 1000), min(n, 1000), a))
	}
	return row(all...)
}

// P10.2: the most's edges at a few sizes.
func TestMost(t *testing.T) {
	for _, n := range []int{1, 2, 5, 1000, 1001, 1002, 65535} {
		x := ofSize(n)
		for _, most := range []int{math.MinInt, -2, -1, 0} {
			sized(t, x, most, 1)
		}
		for _, most := range []int{1, 2, 3, 4, n - 2, n - 1} {
			if most > 0 {
				sized(t, x, most, min(n, most+1))
			}
		}
		for _, most := range []int{n, n + 1, 65535, 65536, 65537, 1 << 20, math.MaxInt - 1, math.MaxInt} {
			sized(t, x, most, n)
		}
	}
}

// P10.2: at MaxStates and past it, which no most lifts; Size counts on.
func TestMaxStates(t *testing.T) {
	for _, most := range []int{65536, 65537, 65538, 1 << 20, math.MaxInt} {
		sized(t, ofSize(65536), most, 65536)
		sized(t, ofSize(65537), most, 65537)
		if most > 65536 {
			sized(t, ofSize(65538), most, 65538)
		}
	}
	sized(t, ofSize(65536), 65535, 65536)
	sized(t, ofSize(65537), 65535, 65536)
	sized(t, ofSize(65537), 65534, 65535)
	sized(t, ofSize(100000), 65536, 65537)
	sized(t, ofSize(100000), 99998, 99999)
	sized(t, ofSize(100000), 99999, 100000)
	sized(t, ofSize(100000), 100000, 100000)
	big := make([]api.Rx, 21846)
	for i := range big {
		big[i] = char('a')
	}
	sized(t, choice(big...), 70000, 3*21846-2+1)
	sized(t, choice(big[1:]...), 70000, 3*21845-2+1)
	sized(t, times(0, 1000, row(big[:64]...)), 70000, 65*1000+1)
	sized(t, times(0, 1000, row(big[:65]...)), 70000, 66*1000+1)
}

// nested is a tree of counts in counts.
func nested(levels int, least int, most int, x api.Rx) api.Rx {
	for range levels {
		x = times(least, most, x)
	}
	return x
}

// P10.2: the chapter's example, and products that are just within and far past all numbers.
func TestProducts(t *testing.T) {
	a := char('a')
	sized(t, nested(2, 1000, 1000, a), 100, 101)
	sized(t, nested(2, 1000, 1000, a), 1000000, 1000001)
	sized(t, nested(2, 1000, 1000, a), 1000001, 1000001)
	sized(t, nested(2, 1000, 1000, a), 999999, 1000000)
	sized(t, nested(6, 1000, 1000, a), math.MaxInt, 1000000000000000001)
	sized(t, nested(6, 1000, 1000, row(a, a, a, a, a, a, a, a, a)), math.MaxInt, 9000000000000000001)
	sized(t, nested(62, 2, 2, a), math.MaxInt, 1<<62+1)
	sized(t, nested(16, 2, 2, a), 65536, 65537)
	sized(t, nested(15, 2, 2, row(a, empty())), 65536, 32769)
	for _, levels := range []int{7, 8, 20, 21, 22, 23, 40, 64, 128, 500, 998, 999} {
		for _, x := range []api.Rx{nested(levels, 1000, 1000, a), nested(levels, 0, 1000, a), nested(levels, 1000, -1, a), nested(levels, 1, 1000, empty()), nested(levels, 999, 1000, a)} {
			sized(t, x, -7, 1)
			sized(t, x, 0, 1)
			sized(t, x, 1, 2)
			sized(t, x, 100, 101)
			sized(t, x, 65535, 65536)
			sized(t, x, 65536, 65537)
			sized(t, x, math.MaxInt32, math.MaxInt32+1)
			sized(t, x, 1<<60, 1<<60+1)
			sized(t, x, math.MaxInt-1, math.MaxInt)
		}
	}
	for _, x := range []api.Rx{nested(63, 2, 2, a), nested(64, 2, 2, a), nested(999, 2, 2, a), nested(999, 1, -1, a)} {
		sized(t, x, math.MaxInt-1, math.MaxInt)
	}
}

// P10.2: the greatest int has no number above it, so all sizes past it are told as that.
func TestGreatestMost(t *testing.T) {
	for _, x := range []api.Rx{nested(999, 1000, 1000, char('a')), nested(64, 2, 2, char('a')), nested(7, 1000, 1000, row(char('a'), char('a')))} {
		if n, e := Size(x, math.MaxInt); e != api.OK || n != math.MaxInt {
			t.Error(n, e)
		}
		if l, e := Compile(x, math.MaxInt); e != api.ErrStates || len(l) != 0 {
			t.Error(len(l), e)
		}
	}
}

// P10.2, R1: what has few states has them soon, however often nothing is asked for, and whatever comes no time.
func TestNothingOften(t *testing.T) {
	a := char('a')
	huge := nested(900, 1000, 1000, a)
	nothing := nested(900, 1000, 1000, empty())
	sized(t, nothing, 1, 1)
	sized(t, nothing, math.MaxInt, 1)
	sized(t, row(nothing, a, nothing), 2, 2)
	sized(t, times(1000, 1000, row(a, nothing)), 65536, 1001)
	sized(t, times(0, 0, huge), 1, 1)
	sized(t, times(0, 0, huge), math.MaxInt, 1)
	sized(t, times(1000, 1000, times(0, 0, huge)), 1, 1)
	sized(t, row(a, times(0, 0, huge), a), 3, 3)
	sized(t, choice(times(0, 0, huge), nothing), 3, 3)
	sized(t, times(0, -1, nothing), 3, 3)
	sized(t, nested(9, 2, 2, choice(nothing, nothing)), 65536, 1025)
	many := make([]api.Rx, 100000)
	for i := range many {
		many[i] = times(1000, 1000, empty())
	}
	many[0] = a
	sized(t, times(655, 655, times(100, 100, row(many...))), 65536, 65501)
}

// P10.2: trees of as many levels as there may be; one more is refused.
func TestLevels(t *testing.T) {
	a := char('a')
	for _, least := range []int{0, 1} {
		sized(t, nested(999, least, 1, a), 65536, (1-least)*999+2)
		sized(t, nested(999, least, 1, empty()), 65536, (1-least)*999+1)
	}
	sized(t, nested(999, 0, -1, a), 65536, 2*999+2)
	deep, left := a, a
	for range 999 {
		deep, left = row(a, deep), choice(left, a)
	}
	sized(t, deep, 1001, 1001)
	sized(t, left, 65536, 3*999+2)
	if l, e := Compile(left, 65536); e != api.OK || l[0].A != 1 || l[0].B != 3*999 || l[998].A != 999 || l[998].B != 1001 || l[1000].A != 1002 || l[1000].B != 1002 {
		t.Error(e)
	}
	refusesAll(t, nested(1000, 1, 1, a))
	refusesAll(t, row(a, deep))
	refusesAll(t, times(0, 0, left))
}

// refusesAll asks that a tree is refused, whatever most is.
func refusesAll(t *testing.T, x api.Rx) {
	t.Helper()
	for _, most := range []int{math.MinInt, -1, 0, 1, 2, 100, 65536, 65537, math.MaxInt} {
		if n, e := Size(x, most); e != api.ErrTree || n != 0 {
			t.Errorf("Size(%v, %d): %d, %d", x.Kind, most, n, e)
		}
		if l, e := Compile(x, most); e != api.ErrTree || len(l) != 0 {
			t.Errorf("Compile(%v, %d): %v, %d", x.Kind, most, l, e)
		}
	}
}

// P10.2: trees that layer 9 refuses, alone and within others, the great and the ones that come no time among them.
func TestWrongTrees(t *testing.T) {
	a := char('a')
	wrong := []api.Rx{
		{}, {Kind: -1}, {Kind: 10}, {Kind: api.RxSeq}, row(a), choice(), choice(a), {Kind: api.RxRepeat, Max: 1},
		times(-1, 1, a), times(0, -2, a), times(2, 1, a), times(0, 1001, a), times(1001, 1001, a), times(1001, -1, a), times(math.MinInt, math.MaxInt, a),
		{Kind: api.RxRepeat, Max: 1, Sub: []api.Rx{a, a}}, {Kind: api.RxRepeat, Max: 1, Sub: []api.Rx{a}, Ranges: ranges(1, 1)},
		chars(5, 4), chars(1, 2, 3, 4), chars(3, 4, 1, 1), chars(-1, 4), chars(0, top+1), lazy(a), lazy(empty()), lazy(row(a, a)),
		{Kind: api.RxSet, Min: 1}, {Kind: api.RxSet, Max: -1}, {Kind: api.RxSet, Sub: []api.Rx{a}}, {Kind: api.RxEmpty, Ranges: ranges(1, 1)},
		{Kind: api.RxBegin, Sub: []api.Rx{a}}, {Kind: api.RxEnd, Max: 1}, {Kind: api.RxWord, Lazy: true}, {Kind: api.RxNoWord, Min: 1},
	}
	for _, x := range wrong {
		refusesAll(t, x)
		refusesAll(t, row(a, x))
		refusesAll(t, choice(x, a, a))
		refusesAll(t, times(0, -1, x))
		refusesAll(t, times(0, 0, x))
		refusesAll(t, row(nested(900, 1000, 1000, a), x))
	}
}

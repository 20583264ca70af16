package rx

import (
	"math"
	"slices"
	"strconv"
	"testing"

	"caliper/api"
)

// cut is a text, short enough to be told.
func cut(s string) string {
	if len(s) > 80 {
		return strconv.Quote(s[:40]) + ".." + strconv.Itoa(len(s)) + " bytes.." + strconv.Quote(s[len(s)-20:])
	}
	return strconv.Quote(s)
}

// chance is a row of numbers that look as if they had no rule, the same ones each time.
type chance uint64

func (c *chance) below(n int) int {
	*c = *c*6364136223846793005 + 1442695040888963407
	return int(uint64(*c)>>33) % n
}

// ranges are ranges by their ends, two by two.
func ranges(ends ...int) []api.Range {
	var l []api.Range
	for i := 0; i+1 < len(ends); i += 2 {
		l = append(l, api.Range{From: ends[i], To: ends[i+1]})
	}
	return l
}

// holds tells whether a number is in one of the ranges.
func holds(l []api.Range, p int) bool {
	return slices.ContainsFunc(l, func(r api.Range) bool { return r.From <= p && p <= r.To })
}

// set tells whether ranges are a set, as P9.1 says it.
func set(l []api.Range) bool {
	for i, r := range l {
		if r.From < 0 || r.To > 0x10ffff || r.From > r.To || i > 0 && r.From < l[i-1].To+2 {
			return false
		}
	}
	return true
}

// P9.1: Merge and Turn of ranges that overlap, touch, stand apart, in any order, and are cut off.
func TestMerge(t *testing.T) {
	const top = 0x10ffff
	cases := []struct{ l, merged, turned []api.Range }{
		{nil, nil, ranges(0, top)},
		{ranges(), nil, ranges(0, top)},
		{ranges(5, 5), ranges(5, 5), ranges(0, 4, 6, top)},
		{ranges(1, 3, 2, 5), ranges(1, 5), ranges(0, 0, 6, top)},
		{ranges(2, 5, 1, 3), ranges(1, 5), ranges(0, 0, 6, top)},
		{ranges(1, 9, 3, 4), ranges(1, 9), ranges(0, 0, 10, top)},
		{ranges(3, 4, 1, 9), ranges(1, 9), ranges(0, 0, 10, top)},
		{ranges(1, 9, 3, 4, 6, 12), ranges(1, 12), ranges(0, 0, 13, top)},
		{ranges(1, 2, 3, 4), ranges(1, 4), ranges(0, 0, 5, top)},
		{ranges(3, 4, 1, 2), ranges(1, 4), ranges(0, 0, 5, top)},
		{ranges(1, 2, 4, 5), ranges(1, 2, 4, 5), ranges(0, 0, 3, 3, 6, top)},
		{ranges(4, 5, 1, 2), ranges(1, 2, 4, 5), ranges(0, 0, 3, 3, 6, top)},
		{ranges(7, 7, 7, 7), ranges(7, 7), ranges(0, 6, 8, top)},
		{ranges(9, 9, 1, 1, 5, 5, 3, 3), ranges(1, 1, 3, 3, 5, 5, 9, 9), ranges(0, 0, 2, 2, 4, 4, 6, 8, 10, top)},
		{ranges(1, 1, 3, 3, 2, 2), ranges(1, 3), ranges(0, 0, 4, top)},
		{ranges(0, top), ranges(0, top), nil},
		{ranges(0, 0), ranges(0, 0), ranges(1, top)},
		{ranges(top, top), ranges(top, top), ranges(0, top-1)},
		{ranges(0, 5, 6, top), ranges(0, top), nil},
		{ranges(5, 4), nil, ranges(0, top)},
		{ranges(5, 4, 1, 2), ranges(1, 2), ranges(0, 0, 3, top)},
		{ranges(-3, 2), ranges(0, 2), ranges(3, top)},
		{ranges(-3, 0), ranges(0, 0), ranges(1, top)},
		{ranges(-3, -1), nil, ranges(0, top)},
		{ranges(-1, -3), nil, ranges(0, top)},
		{ranges(2, -3), nil, ranges(0, top)},
		{ranges(top-1, top+1), ranges(top-1, top), ranges(0, top-2)},
		{ranges(top, top+9), ranges(top, top), ranges(0, top-1)},
		{ranges(top+1, top+9), nil, ranges(0, top)},
		{ranges(top+9, top+1), nil, ranges(0, top)},
		{ranges(top+9, 3), nil, ranges(0, top)},
		{ranges(-9, top+9), ranges(0, top), nil},
		{ranges(math.MinInt, math.MaxInt), ranges(0, top), nil},
		{ranges(math.MaxInt, math.MinInt), nil, ranges(0, top)},
		{ranges(math.MinInt, -1, 7, math.MaxInt), ranges(7, top), ranges(0, 6)},
		{ranges(math.MinInt, math.MinInt, math.MaxInt, math.MaxInt), nil, ranges(0, top)},
		{ranges(3, math.MaxInt, 4, math.MaxInt), ranges(3, top), ranges(0, 2)},
		{ranges(0xd800, 0xdfff), ranges(0xd800, 0xdfff), ranges(0, 0xd7ff, 0xe000, top)},
		{ranges(0xd900, 0xd900), ranges(0xd900, 0xd900), ranges(0, 0xd8ff, 0xd901, top)},
	}
	for _, c := range cases {
		if got := Merge(c.l); !slices.Equal(got, c.merged) {
			t.Error("Merge", c.l, got, c.merged)
		}
		if got := Turn(c.l); !slices.Equal(got, c.turned) {
			t.Error("Turn", c.l, got, c.turned)
		}
		if got := Turn(Turn(c.l)); !slices.Equal(got, c.merged) {
			t.Error("Turn twice", c.l, got, c.merged)
		}
		if got := Merge(Merge(c.l)); !slices.Equal(got, c.merged) {
			t.Error("Merge twice", c.l, got, c.merged)
		}
	}
}

// about are the numbers around both ends.
func about() []int {
	const top = 0x10ffff
	return []int{-3, -2, -1, 0, 1, 2, 3, 4, 5, 6, 7, 8, top - 4, top - 3, top - 2, top - 1, top, top + 1, top + 2}
}

// askSets asks Merge and Turn, number by number.
func askSets(t *testing.T, l []api.Range) {
	t.Helper()
	merged, turned := Merge(l), Turn(l)
	if !set(merged) || !set(turned) || !slices.Equal(Turn(turned), merged) {
		t.Fatal(l, merged, turned)
	}
	for _, p := range about() {
		in := p >= 0 && p <= 0x10ffff
		if holds(merged, p) != (in && holds(l, p)) || holds(turned, p) != (in && !holds(l, p)) {
			t.Fatal(l, merged, turned, p)
		}
	}
}

// P9.1: all rows of two small ranges, and many longer ones, number by number.
func TestMergeByNumbers(t *testing.T) {
	for n := range 9 * 9 * 9 * 9 {
		askSets(t, ranges(n%9-1, n/9%9-1, n/81%9-1, n/729%9-1))
	}
	var c chance = 1
	for range 50000 {
		var l []api.Range
		for range c.below(7) {
			from := about()[c.below(len(about()))]
			l = append(l, api.Range{From: from, To: from + c.below(6) - 1})
		}
		askSets(t, l)
	}
}

// P9.1, R3: what comes is new memory; what is handed in stays, and so does what is behind its end.
func TestMergeKeeps(t *testing.T) {
	room := ranges(9, 11, 3, 4, 5, 6, 1, 1, 70, 80)
	before := slices.Clone(room)
	for _, call := range []func([]api.Range) []api.Range{Merge, Turn} {
		first := call(room[:4])
		if !slices.Equal(room, before) {
			t.Fatal(room)
		}
		kept := slices.Clone(first)
		for i := range first[:cap(first)] {
			first[:cap(first)][i] = api.Range{From: -7, To: -7}
		}
		if !slices.Equal(room, before) || !slices.Equal(call(room[:4]), kept) {
			t.Fatal(room, kept)
		}
	}
}

// R1: many ranges.
func TestMergeMany(t *testing.T) {
	const many = 300000
	var l []api.Range
	for i := range many {
		l = append(l, api.Range{From: (i * 7919 % many) * 3, To: (i*7919%many)*3 + 1})
	}
	if got := Merge(l); len(got) != many || !set(got) {
		t.Error(len(got))
	}
	if got := Turn(l); len(got) != many || got[0] != (api.Range{From: 2, To: 2}) || got[many-1].To != 0x10ffff {
		t.Error(len(got))
	}
}

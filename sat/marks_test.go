package sat

import (
	"slices"
	"strings"
	"testing"

	"caliper/api"
)

// marksOf are marks of these numbers.
func marksOf(numbers ...int) marks {
	var m marks
	for _, n := range numbers {
		m = m.put(n)
	}
	return m
}

func TestMarks(t *testing.T) {
	rows := [][]int{nil, {0}, {63}, {64}, {0, 63, 64, 127, 128}, {5, 1000}, {0, 1, 2, 3}, {200}}
	for _, a := range rows {
		m := marksOf(a...)
		for n := range 1100 {
			if m.has(n) != slices.Contains(a, n) {
				t.Error(a, n)
			}
		}
		if got := m.numbers(); !slices.Equal(got, a) {
			t.Error(got, a)
		}
		for _, b := range rows {
			want := slices.Concat(a, b)
			slices.Sort(want)
			want = slices.Compact(want)
			other := marksOf(b...)
			if got := m.joined(other).numbers(); !slices.Equal(got, want) {
				t.Error(a, b, got)
			}
			if !slices.Equal(m.numbers(), a) || !slices.Equal(other.numbers(), b) {
				t.Error("changed:", a, b, m, other)
			}
		}
	}
}

// Answers may hold one and the same marks, where one has all of the others; else joining them changes neither.
func TestMarksShared(t *testing.T) {
	m := marksOf(1, 70)
	for _, less := range []marks{nil, marksOf(1), marksOf(70), marksOf(1, 70)} {
		if got := m.joined(less); &got[0] != &m[0] {
			t.Error(less)
		}
		if got := less.joined(m); len(less) < 2 && &got[0] != &m[0] {
			t.Error(less)
		}
	}
	got := m.joined(marksOf(2))
	if got.put(3); !slices.Equal(m.numbers(), []int{1, 70}) || &got[0] == &m[0] {
		t.Error(m.numbers())
	}
}

// No more states are kept than there is room for, whatever comes, and what is gone is made again.
func TestAutomata(t *testing.T) {
	a := automata{kept: map[string][]api.State{}}
	for range 3 {
		for _, letter := range strings.Fields("a b c d e f g h") {
			if !a.finds("^("+letter+"{1000}){65}$|"+letter+"x", letter+"x") || a.finds("^"+letter+"$", "x") {
				t.Error(letter)
			}
			sum := 0
			for _, states := range a.kept {
				sum += len(states)
			}
			if sum != a.states || sum > mostKept {
				t.Error(sum, a.states)
			}
		}
	}
}

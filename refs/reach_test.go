package refs

import (
	"math"
	"slices"
	"testing"

	"caliper/api"
)

// ways are edges from pairs of numbers.
func ways(numbers ...int) []api.Edge {
	var all []api.Edge
	for i := 0; i < len(numbers); i += 2 {
		all = append(all, api.Edge{From: numbers[i], To: numbers[i+1]})
	}
	return all
}

// reaches asks for what Reach answers.
func reaches(t *testing.T, n int, edges []api.Edge, from int, want ...int) {
	t.Helper()
	if got := Reach(n, edges, from); !slices.Equal(got, want) {
		t.Errorf("Reach(%d, %v, %d): %v, not %v", n, edges, from, got, want)
	}
}

// P14.4: along the edges, not against them, over several and in cycles, rising and each number once.
func TestReach(t *testing.T) {
	reaches(t, 3, nil, 0, 0)
	reaches(t, 3, []api.Edge{}, 2, 2)
	reaches(t, 1, ways(0, 0), 0, 0)
	reaches(t, 2, ways(0, 1), 0, 0, 1)
	reaches(t, 2, ways(0, 1), 1, 1)
	reaches(t, 5, ways(3, 1, 1, 4, 4, 0, 0, 2), 3, 0, 1, 2, 3, 4)
	reaches(t, 5, ways(3, 1, 1, 4, 4, 0, 0, 2), 4, 0, 2, 4)
	reaches(t, 5, ways(0, 2, 4, 0, 1, 4, 3, 1), 3, 0, 1, 2, 3, 4)
	cycle := ways(0, 1, 1, 2, 2, 1, 3, 3, 2, 4, 4, 2)
	reaches(t, 5, cycle, 0, 0, 1, 2, 4)
	reaches(t, 5, cycle, 1, 1, 2, 4)
	reaches(t, 5, cycle, 3, 3)
	reaches(t, 3, ways(0, 2, 0, 2, 0, 1, 0, 2, 1, 2), 0, 0, 1, 2)
}

// P14.4: all edges count alike, whatever their words are.
func TestReachByAllEdges(t *testing.T) {
	edges := []api.Edge{{From: 0, To: 1, Word: "$ref", Same: true}, {From: 1, To: 2, Word: "items"}, {From: 2, To: 3, Word: "$dynamicRef", Same: true, Dynamic: "d"}, {From: 3, To: 4}}
	reaches(t, 5, edges, 0, 0, 1, 2, 3, 4)
}

// P14.4: none from a number that is none; n may be 0 and below.
func TestReachFromNothing(t *testing.T) {
	for _, edges := range [][]api.Edge{nil, ways(0, 1, 1, 0, -1, 0, 2, 0, 0, 2)} {
		for _, from := range []int{-1, 2, 3, math.MaxInt, math.MinInt} {
			reaches(t, 2, edges, from)
		}
		for _, n := range []int{0, -1, math.MinInt} {
			for _, from := range []int{-1, 0, 1, math.MaxInt, math.MinInt} {
				reaches(t, n, edges, from)
			}
		}
	}
}

// P14.4: edges with a number that is none lead nowhere, and nothing comes through such a number.
func TestReachByWrongEdges(t *testing.T) {
	reaches(t, 3, ways(0, 3, 3, 1), 0, 0)
	reaches(t, 3, ways(0, -1, -1, 1), 0, 0)
	reaches(t, 3, ways(0, math.MaxInt, math.MaxInt, 1, 0, math.MinInt, math.MinInt, 1, 0, 2), 0, 0, 2)
	reaches(t, 4, ways(0, 3, 3, 1), 0, 0, 1, 3)
	reaches(t, 1, ways(0, 1, 1, 0), 0, 0)
}

// P14.4, R1: n may be any number: the answer is as long as the edges make it.
func TestReachOfManyNumbers(t *testing.T) {
	reaches(t, math.MaxInt, nil, math.MaxInt-1, math.MaxInt-1)
	reaches(t, math.MaxInt, ways(5, math.MaxInt-1, math.MaxInt-1, 0, 0, math.MaxInt), 5, 0, 5, math.MaxInt-1)
	var chain []api.Edge
	for i := range 200000 {
		chain = append(chain, api.Edge{From: i + 1, To: i})
	}
	if got := Reach(300000, chain, 200000); len(got) != 200001 || got[0] != 0 || got[200000] != 200000 {
		t.Error(len(got))
	}
}

// R3, R4: the list is the caller's own, the edges stay as they were.
func TestReachIsNew(t *testing.T) {
	edges := ways(2, 1, 1, 0)
	kept := slices.Clone(edges)
	first := Reach(3, edges, 2)
	clear(first[:cap(first)])
	reaches(t, 3, edges, 2, 0, 1, 2)
	if !slices.Equal(edges, kept) {
		t.Error(edges)
	}
}

// P14.4: edges of chance, against what all pairs come to, number by number (as Warshall has it).
func TestReachAsTheModel(t *testing.T) {
	c := chance(144)
	for range 2000 {
		n := 1 + c.below(9)
		var edges []api.Edge
		var to [9][9]bool
		for i := range n {
			to[i][i] = true
		}
		for range c.below(15) {
			e := api.Edge{From: c.below(n+2) - 1, To: c.below(n+2) - 1, Same: c.below(2) == 0}
			edges = append(edges, e)
			if min(e.From, e.To) >= 0 && max(e.From, e.To) < n {
				to[e.From][e.To] = true
			}
		}
		for k := range n {
			for i := range n {
				for j := range n {
					to[i][j] = to[i][j] || to[i][k] && to[k][j]
				}
			}
		}
		for from := range n {
			var want []int
			for j := range n {
				if to[from][j] {
					want = append(want, j)
				}
			}
			reaches(t, n, edges, from, want...)
		}
	}
}

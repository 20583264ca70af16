package loops

import (
	"runtime/debug"
	"slices"
	"testing"

	"caliper/api"
)

// row are edges from each number to the next one.
func row(n int) []api.Edge {
	var all []api.Edge
	for i := 1; i < n; i++ {
		all = append(all, api.Edge{From: i - 1, To: i, Same: true})
	}
	return all
}

// turnedRow are edges from each number to the one ahead of it.
func turnedRow(n int) []api.Edge {
	all := row(n)
	for i := range all {
		all[i].From, all[i].To = all[i].To, all[i].From
	}
	return all
}

// longFree asks for a row's ranks and parts. It compares whole answers only, as a long one is not to be told.
func longFree(t *testing.T, n int, edges []api.Edge, rank func(number int) int) {
	t.Helper()
	if cycle, ok := Cycle(n, edges); ok {
		t.Error(n, "has a cycle of", len(cycle))
	}
	ranks, ok := Ranks(n, edges)
	parts := Parts(n, edges)
	if !ok || len(ranks) != n || len(parts) != n {
		t.Fatal(n, ok, len(ranks), len(parts))
	}
	for i := range n {
		if ranks[i] != rank(i) || parts[i] != i {
			t.Fatal(n, i, ranks[i], parts[i])
		}
	}
}

// longLooped asks for a cycle through all numbers from one on, which are one part.
func longLooped(t *testing.T, n int, edges []api.Edge, least int) {
	t.Helper()
	cycle, ok := Cycle(n, edges)
	if !ok || len(cycle) != n-least || !Real(n, edges, cycle) || slices.Min(cycle) != least {
		t.Fatal(n, ok, len(cycle))
	}
	if ranks, ok := Ranks(n, edges); ok || len(ranks) > 0 {
		t.Error(n, ok, len(ranks))
	}
	for i, part := range Parts(n, edges) {
		if part != min(i, least) {
			t.Fatal(n, i, part)
		}
	}
}

// P15.1 to P15.3: rows of many numbers, and of as many as calls of the search stand in one another; with and without an edge back.
func TestLongRows(t *testing.T) {
	defer debug.SetMaxStack(debug.SetMaxStack(1 << 20)) // a call in another for each number would need more
	for _, n := range []int{deepest - 1, deepest, deepest + 1, deepest + 2, deepest + 3, 2 * deepest, 2*deepest + 1, 2*deepest + 2, 2*deepest + 3, 200000} {
		longFree(t, n, row(n), func(number int) int { return n - 1 - number })
		longFree(t, n, turnedRow(n), func(number int) int { return number })
		longLooped(t, n, append(row(n), same(n-1, 0)...), 0)
		longLooped(t, n, append(same(0, n-1), turnedRow(n)...), 0)
		longLooped(t, n, append(row(n), same(n-1, n/2)...), n/2)
		longLooped(t, n, append(row(n), same(n-1, n-1)...), n-1)
		longLooped(t, n, append(same(n-1, n-2), row(n)...), n-2)
	}
}

// P15.1 Real: a long path lacks one edge.
func TestLongPath(t *testing.T) {
	const n = 200000
	path := upTo(n)
	edges := append(row(n), same(n-1, 0)...)
	if !Real(n, edges, path) {
		t.Error("the whole one is none")
	}
	for _, i := range []int{0, 1, n / 2, n - 2, n - 1} {
		if Real(n, slices.Delete(slices.Clone(edges), i, i+1), path) {
			t.Error("it lacks edge", i)
		}
	}
}

// P15.2: a long row whose numbers have more edges, ahead and behind that to the next one, to what is off the row: none of them is forgotten where the search goes deep.
func TestLongComb(t *testing.T) {
	const teeth = 3*deepest + 7
	var edges []api.Edge
	for i := range teeth {
		edges = append(edges, same(3*i, 3*i+1)...)
		if i+1 < teeth {
			edges = append(edges, same(3*i, 3*i+3)...)
		}
		edges = append(edges, same(3*i, 3*i+2)...)
	}
	longFree(t, 3*teeth, edges, func(number int) int {
		if number%3 > 0 {
			return 0
		}
		return teeth - number/3
	})
	last := same(3*(teeth-1)+2, 0)
	cycle, ok := Cycle(3*teeth, append(edges, last...))
	if !ok || len(cycle) != teeth+1 || !Real(3*teeth, append(edges, last...), cycle) {
		t.Error(ok, len(cycle))
	}
}

// reaches are the numbers that one comes to from a number, by edges, as it is with each.
func reaches(next [][]int, from int) []int {
	seen := make([]int, len(next))
	seen[from] = 1
	waiting := []int{from}
	for len(waiting) > 0 {
		number := waiting[0]
		waiting = waiting[1:]
		for _, to := range next[number] {
			if seen[to] == 0 {
				seen[to] = 1
				waiting = append(waiting, to)
			}
		}
	}
	return seen
}

// P15.3: long rows with edges of chance back and ahead, against what each number comes to; the numbers stand in an order of chance.
func TestLongNets(t *testing.T) {
	c := chance(153)
	for _, chords := range []int{5, 40, 300} {
		const n = 2*deepest + 500
		names := upTo(n)
		for i := range names {
			j := c.below(i + 1)
			names[i], names[j] = names[j], names[i]
		}
		edges := row(n)
		for range chords {
			from := c.below(n)
			edges = append(edges, same(from, max(from-c.below(60), 0), c.below(n), c.below(n/2)+n/2)...)
		}
		next, back := make([][]int, n), make([][]int, n)
		for i, e := range edges {
			edges[i].From, edges[i].To = names[e.From], names[e.To]
			next[edges[i].From] = append(next[edges[i].From], edges[i].To)
			back[edges[i].To] = append(back[edges[i].To], edges[i].From)
		}
		parts := Parts(n, edges)
		for i := range n {
			to, from := reaches(next, i), reaches(back, i)
			least := 0
			for to[least]+from[least] < 2 {
				least++
			}
			if parts[i] != least {
				t.Fatal(chords, i, parts[i], least)
			}
		}
		if cycle, ok := Cycle(n, edges); !ok || !Real(n, edges, cycle) {
			t.Error(chords, cycle, ok)
		}
	}
}

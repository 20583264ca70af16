package loops

import (
	"slices"
	"testing"

	"caliper/api"
)

// chance is a row of numbers that is the same each time.
type chance uint64

func (c *chance) below(n int) int {
	*c = *c*6364136223846793005 + 1442695040888963407
	return int(uint64(*c>>33) % uint64(n))
}

// edges are some edges of chance: most of them count, some have wrong numbers, some are not Same.
func (c *chance) edges(n, many int) []api.Edge {
	var all []api.Edge
	for range many {
		all = append(all, api.Edge{From: c.below(n+2) - 1, To: c.below(n+2) - 1, Same: c.below(4) > 0})
	}
	return all
}

// model is, of each number, to which ones it leads by one edge or more (as Warshall has it).
func model(n int, edges []api.Edge) [][]bool {
	to := make([][]bool, n)
	for i := range to {
		to[i] = make([]bool, n)
		for j := range to[i] {
			to[i][j] = leads(n, edges, i, j)
		}
	}
	for k := range n {
		for i := range n {
			for j := range n {
				to[i][j] = to[i][j] || to[i][k] && to[k][j]
			}
		}
	}
	return to
}

// modelParts are the parts by the chapter's words.
func modelParts(to [][]bool) []int {
	parts := make([]int, len(to))
	for i := range parts {
		for parts[i] != i && !(to[i][parts[i]] && to[parts[i]][i]) {
			parts[i]++
		}
	}
	return parts
}

// modelRanks are the longest ways' lengths: as many rounds as there are numbers lengthen them as far as they go, if there is no cycle.
func modelRanks(n int, edges []api.Edge) []int {
	ranks := make([]int, n)
	for range n {
		for _, e := range edges {
			if leads(n, edges, e.From, e.To) {
				ranks[e.From] = max(ranks[e.From], ranks[e.To]+1)
			}
		}
	}
	return ranks
}

// P15.1 to P15.3: nets of chance, against what the chapter's words say.
func TestAsTheModel(t *testing.T) {
	c := chance(15)
	tied, loose := 0, 0
	for range 20000 {
		n := c.below(9)
		edges := c.edges(n, c.below(2*n+2))
		to := model(n, edges)
		if slices.ContainsFunc(upTo(n), func(i int) bool { return to[i][i] }) {
			tied++
			looped(t, n, edges, modelParts(to))
		} else {
			loose++
			free(t, n, edges, modelRanks(n, edges), modelParts(to))
		}
		if t.Failed() {
			return
		}
	}
	if tied < 5000 || loose < 5000 {
		t.Error("too few are of use:", tied, loose)
	}
}

// P15.1 Real: paths of chance, against what the chapter's words say.
func TestRealAsTheModel(t *testing.T) {
	c := chance(151)
	yes, no := 0, 0
	for range 20000 {
		n := 1 + c.below(4)
		edges := c.edges(n, c.below(20))
		var path []int
		for range c.below(6) {
			path = append(path, c.below(n+1)-c.below(2))
		}
		want := isCycle(n, edges, path)
		realIs(t, n, edges, path, want)
		if want {
			yes++
		} else {
			no++
		}
	}
	if yes < 1000 || no < 1000 {
		t.Error("too few are of use:", yes, no)
	}
}

// P15.4: there is a cycle, if and only if two numbers have one part, or one has an edge to itself; along an edge ranks fall.
func TestWhatFollows(t *testing.T) {
	c := chance(154)
	tied, loose := 0, 0
	for range 3000 {
		n := 1 + c.below(40)
		edges := c.edges(n, c.below(2*n))
		parts := Parts(n, edges)
		shared := len(slices.Compact(slices.Sorted(slices.Values(parts)))) < n
		itself := slices.ContainsFunc(upTo(n), func(i int) bool { return leads(n, edges, i, i) })
		cycle, ok := Cycle(n, edges)
		if ok != (shared || itself) || ok != isCycle(n, edges, cycle) {
			t.Fatal(n, edges, parts, cycle, ok)
		}
		ranks, ranked := Ranks(n, edges)
		if ranked == ok {
			t.Fatal(n, edges, ranks)
		}
		if ok {
			tied++
			continue
		}
		loose++
		for _, e := range edges {
			if leads(n, edges, e.From, e.To) && ranks[e.From] <= ranks[e.To] {
				t.Fatal(n, edges, ranks, e)
			}
		}
	}
	if tied < 500 || loose < 500 {
		t.Error("too few are of use:", tied, loose)
	}
}

package loops

import (
	"math"
	"slices"
	"testing"

	"caliper/api"
	"caliper/bundle"
	"caliper/refs"
)

// same are edges to the same instance, from pairs of numbers.
func same(numbers ...int) []api.Edge {
	var all []api.Edge
	for i := 0; i < len(numbers); i += 2 {
		all = append(all, api.Edge{From: numbers[i], To: numbers[i+1], Same: true})
	}
	return all
}

// others are edges that are not Same, from pairs of numbers.
func others(numbers ...int) []api.Edge {
	all := same(numbers...)
	for i := range all {
		all[i].Same = false
	}
	return all
}

// leads tells whether an edge that counts leads from a number to another one.
func leads(n int, edges []api.Edge, from, to int) bool {
	return slices.ContainsFunc(edges, func(e api.Edge) bool {
		return e.Same && e.From == from && e.To == to && min(from, to) >= 0 && max(from, to) < n
	})
}

// isCycle tells whether a path is a cycle, step by step.
func isCycle(n int, edges []api.Edge, path []int) bool {
	for i := 1; i < len(path); i++ {
		if !leads(n, edges, path[i-1], path[i]) {
			return false
		}
	}
	return len(path) > 0 && leads(n, edges, path[len(path)-1], path[0])
}

// free asks that there is no cycle, for these ranks and parts, and that ranks fall along the edges.
func free(t *testing.T, n int, edges []api.Edge, ranks, parts []int) {
	t.Helper()
	if cycle, ok := Cycle(n, edges); ok || len(cycle) > 0 {
		t.Errorf("Cycle(%d, %v): %v, %v", n, edges, cycle, ok)
	}
	got, ok := Ranks(n, edges)
	if !ok || !slices.Equal(got, ranks) {
		t.Errorf("Ranks(%d, %v): %v, %v, not %v", n, edges, got, ok, ranks)
	}
	for _, e := range edges {
		if ok && leads(n, edges, e.From, e.To) && got[e.From] <= got[e.To] {
			t.Errorf("Ranks(%d, %v): %v does not fall from %d to %d", n, edges, got, e.From, e.To)
		}
	}
	parted(t, n, edges, parts)
}

// looped asks that there is a cycle, for no ranks and for these parts.
func looped(t *testing.T, n int, edges []api.Edge, parts []int) {
	t.Helper()
	cycle, ok := Cycle(n, edges)
	if !ok || !isCycle(n, edges, cycle) || !Real(n, edges, cycle) {
		t.Errorf("Cycle(%d, %v): %v, %v", n, edges, cycle, ok)
	}
	if got, ok := Ranks(n, edges); ok || len(got) > 0 {
		t.Errorf("Ranks(%d, %v): %v, %v", n, edges, got, ok)
	}
	parted(t, n, edges, parts)
}

// parted asks for what Parts answers.
func parted(t *testing.T, n int, edges []api.Edge, parts []int) {
	t.Helper()
	if got := Parts(n, edges); !slices.Equal(got, parts) {
		t.Errorf("Parts(%d, %v): %v, not %v", n, edges, got, parts)
	}
}

// realIs asks for what Real answers.
func realIs(t *testing.T, n int, edges []api.Edge, path []int, want bool) {
	t.Helper()
	if Real(n, edges, path) != want {
		t.Errorf("Real(%d, %v, %v) is not %v", n, edges, path, want)
	}
}

// P15.1 to P15.3: the chapter's example, with and without its last edge.
func TestExample(t *testing.T) {
	edges := same(0, 1, 1, 2, 2, 1)
	looped(t, 3, edges, []int{0, 1, 1})
	cycle, _ := Cycle(3, edges)
	if !slices.Equal(cycle, []int{1, 2}) && !slices.Equal(cycle, []int{2, 1}) {
		t.Error(cycle)
	}
	free(t, 3, edges[:2], []int{2, 1, 0}, []int{0, 1, 2})
}

// P15.1 to P15.3: no numbers, and one.
func TestFewNumbers(t *testing.T) {
	for _, n := range []int{0, -1, -5, math.MinInt} {
		for _, edges := range [][]api.Edge{nil, {}, same(0, 0), same(-1, -1), same(-2, -1, -1, -2), same(n, n)} {
			free(t, n, edges, nil, nil)
			realIs(t, n, edges, nil, false)
			realIs(t, n, edges, []int{0}, false)
			realIs(t, n, edges, []int{-1}, false)
			realIs(t, n, edges, []int{n}, false)
		}
	}
	free(t, 1, nil, []int{0}, []int{0})
	free(t, 1, []api.Edge{}, []int{0}, []int{0})
	free(t, 1, same(0, 1, 1, 0, 1, 1, -1, 0, 0, -1, -1, -1), []int{0}, []int{0})
	looped(t, 1, same(0, 0), []int{0})
	if cycle, _ := Cycle(1, same(0, 0)); !slices.Equal(cycle, []int{0}) {
		t.Error(cycle)
	}
}

// P15.2, P15.3: rows, trees and nets without a cycle: a number has the longest of its ways, wherever its edge stands.
func TestFree(t *testing.T) {
	own := []int{0, 1, 2, 3, 4}
	free(t, 5, nil, []int{0, 0, 0, 0, 0}, own)
	free(t, 5, same(0, 1, 1, 2, 2, 3, 3, 4), []int{4, 3, 2, 1, 0}, own)
	free(t, 5, same(4, 3, 3, 2, 2, 1, 1, 0), []int{0, 1, 2, 3, 4}, own)
	free(t, 5, same(3, 4, 1, 2, 2, 3, 0, 1), []int{4, 3, 2, 1, 0}, own)
	free(t, 5, same(2, 0, 0, 4, 4, 1, 1, 3), []int{3, 1, 4, 0, 2}, own)
	free(t, 5, same(0, 1, 0, 2, 1, 3, 1, 4), []int{2, 1, 0, 0, 0}, own)
	free(t, 5, same(1, 0, 2, 0, 3, 1, 4, 1), []int{0, 1, 1, 2, 2}, own)
	free(t, 5, same(0, 3, 0, 1, 1, 2, 2, 3), []int{3, 2, 1, 0, 0}, own)
	free(t, 5, same(0, 1, 1, 2, 2, 3, 0, 3), []int{3, 2, 1, 0, 0}, own)
	free(t, 5, same(0, 1, 0, 2, 1, 3, 2, 3, 3, 4), []int{3, 2, 2, 1, 0}, own)
	free(t, 5, same(0, 4, 0, 3, 0, 2, 0, 1, 1, 4, 1, 3, 1, 2, 2, 4, 2, 3, 3, 4), []int{4, 3, 2, 1, 0}, own)
	free(t, 5, same(0, 1, 3, 4), []int{1, 0, 0, 1, 0}, own)
}

// P15.1 to P15.3: cycles that have numbers in common and that have none, alone and among others.
func TestLooped(t *testing.T) {
	looped(t, 3, same(1, 1), []int{0, 1, 2})
	looped(t, 3, same(0, 1, 1, 1, 1, 2), []int{0, 1, 2})
	looped(t, 3, same(0, 0, 1, 1, 2, 2), []int{0, 1, 2})
	looped(t, 3, same(0, 1, 1, 0), []int{0, 0, 2})
	looped(t, 3, same(2, 1, 1, 2), []int{0, 1, 1})
	looped(t, 5, same(0, 1, 1, 0, 1, 2, 2, 1), []int{0, 0, 0, 3, 4})
	looped(t, 5, same(1, 2, 2, 4, 4, 1, 2, 3, 3, 1), []int{0, 1, 1, 1, 1})
	looped(t, 5, same(0, 3, 3, 0, 1, 4, 4, 1), []int{0, 1, 2, 0, 1})
	looped(t, 5, same(0, 3, 3, 0, 3, 4, 1, 4, 4, 1), []int{0, 1, 2, 0, 1})
	looped(t, 5, same(4, 1, 1, 4, 4, 3, 0, 3, 3, 0), []int{0, 1, 2, 0, 1})
	looped(t, 6, same(0, 1, 2, 1, 1, 3, 3, 4, 4, 3, 4, 5), []int{0, 1, 2, 3, 3, 5})
	looped(t, 6, same(0, 1, 1, 2, 4, 5, 5, 4), []int{0, 1, 2, 3, 4, 4})
	looped(t, 6, same(4, 5, 5, 4, 0, 1, 1, 2), []int{0, 1, 2, 3, 4, 4})
	looped(t, 5, same(0, 1, 1, 2, 2, 3, 3, 4, 4, 0), []int{0, 0, 0, 0, 0})
	looped(t, 5, same(4, 3, 3, 2, 2, 1, 1, 0, 0, 4), []int{0, 0, 0, 0, 0})
	looped(t, 5, same(0, 2, 2, 4, 4, 1, 1, 3, 3, 0), []int{0, 0, 0, 0, 0})
}

// P15.3: a part's least number is told also where the search meets it last, or comes to it from outside by another one.
func TestLeastOfPart(t *testing.T) {
	looped(t, 5, same(4, 3, 3, 2, 2, 1, 1, 4), []int{0, 1, 1, 1, 1})
	looped(t, 5, same(0, 4, 4, 3, 3, 2, 2, 1, 1, 4), []int{0, 1, 1, 1, 1})
	looped(t, 5, same(0, 3, 3, 2, 2, 4, 4, 3, 4, 1, 1, 4), []int{0, 1, 1, 1, 1})
	looped(t, 5, same(2, 4, 4, 3, 3, 2, 3, 1, 1, 2, 1, 0), []int{0, 1, 1, 1, 1})
	looped(t, 5, same(4, 3, 3, 4, 3, 2, 2, 1, 1, 2, 0, 4), []int{0, 1, 1, 3, 3})
}

// P15.1 to P15.3: two edges between two numbers: one each way, and twice the same one.
func TestTwoEdges(t *testing.T) {
	looped(t, 2, same(0, 1, 1, 0), []int{0, 0})
	looped(t, 2, same(1, 0, 0, 1), []int{0, 0})
	free(t, 2, same(0, 1, 0, 1), []int{1, 0}, []int{0, 1})
	free(t, 3, same(0, 1, 0, 1, 1, 2, 1, 2, 0, 2, 0, 2), []int{2, 1, 0}, []int{0, 1, 2})
	looped(t, 2, same(0, 0, 0, 0, 0, 1, 0, 1), []int{0, 1})
}

// P15.1 to P15.3: edges that are not Same do not count, alone and beside others; their words and names make no difference.
func TestOtherEdges(t *testing.T) {
	own := []int{0, 1, 2}
	free(t, 3, others(0, 0), []int{0, 0, 0}, own)
	free(t, 3, others(0, 1, 1, 2, 2, 0), []int{0, 0, 0}, own)
	free(t, 3, append(same(0, 1, 1, 2), others(2, 0, 2, 1, 1, 0, 0, 0)...), []int{2, 1, 0}, own)
	free(t, 3, append(others(0, 1, 1, 2), same(2, 0)...), []int{0, 0, 1}, own)
	free(t, 3, append(others(0, 1), same(1, 2, 0, 2)...), []int{1, 1, 0}, own)
	looped(t, 3, append(others(0, 1, 1, 0), same(0, 1, 1, 0)...), []int{0, 0, 2})
	looped(t, 3, append(same(1, 2, 2, 1), others(2, 0, 0, 1)...), []int{0, 1, 1})
	named := []api.Edge{{From: 0, To: 1, Word: "$dynamicRef", Same: true, Dynamic: "d"}, {From: 1, To: 2, Word: "items", Same: true}, {From: 2, To: 0, Word: "$ref", Dynamic: "d"}}
	free(t, 3, named, []int{2, 1, 0}, own)
	named[2].Same = true
	looped(t, 3, named, []int{0, 0, 0})
}

// P15.1 to P15.3: edges with a number below 0, with n or with one above do not count, and nothing comes through such a number.
func TestWrongNumbers(t *testing.T) {
	own := []int{0, 1, 2}
	for _, wrong := range []int{-1, 3, 4, math.MaxInt, math.MinInt} {
		free(t, 3, same(wrong, wrong), []int{0, 0, 0}, own)
		free(t, 3, same(0, wrong, wrong, 0, 1, wrong, wrong, 1), []int{0, 0, 0}, own)
		free(t, 3, same(0, wrong, wrong, 1, 1, 2), []int{0, 1, 0}, own)
		free(t, 3, same(0, 1, 1, wrong, wrong, 0, 1, 2), []int{2, 1, 0}, own)
		looped(t, 3, same(wrong, 0, 0, 1, 1, wrong, 1, 0), []int{0, 0, 2})
		for _, path := range [][]int{{wrong}, {0, wrong}, {wrong, 0}, {0, 1, wrong}} {
			realIs(t, 3, same(wrong, wrong, 0, wrong, wrong, 0, 0, 1, 1, wrong), path, false)
		}
	}
	looped(t, 4, same(0, 3, 3, 0), []int{0, 1, 2, 0})
}

// P15.1 Real: one number at least, each with an edge to the next one, the last one to the first.
func TestReal(t *testing.T) {
	edges := same(0, 1, 1, 2, 2, 0, 2, 3, 3, 3, 1, 0)
	realIs(t, 4, edges, nil, false)
	realIs(t, 4, edges, []int{}, false)
	realIs(t, 4, nil, nil, false)
	for _, path := range [][]int{{3}, {0, 1}, {1, 0}, {0, 1, 2}, {1, 2, 0}, {2, 0, 1}} {
		realIs(t, 4, edges, path, true)
		realIs(t, 4, nil, path, false)
		realIs(t, 4, others(0, 1, 1, 2, 2, 0, 2, 3, 3, 3, 1, 0), path, false)
	}
	for _, path := range [][]int{{0}, {2}, {0, 2}, {1, 2}, {2, 1, 0}, {0, 1, 2, 3}, {2, 3}, {3, 2}, {4}, {-1}, {0, 1, 4}} {
		realIs(t, 4, edges, path, false)
	}
	realIs(t, 3, edges, []int{3}, false)
	realIs(t, 4, edges, []int{0, 1, 2}, true)
	edges[1].Same = false
	realIs(t, 4, edges, []int{0, 1, 2}, false)
	realIs(t, 4, append(edges, same(1, 2)...), []int{0, 1, 2}, true)
}

// P15.1 Real: a path may come through a number twice: all that is asked for is its edges.
func TestRealTwice(t *testing.T) {
	edges := same(0, 1, 1, 0, 1, 2, 2, 1, 3, 3)
	for _, path := range [][]int{{0, 1, 0, 1}, {0, 1, 2, 1}, {1, 0, 1, 2}, {3, 3}, {3, 3, 3}} {
		realIs(t, 4, edges, path, true)
	}
	for _, path := range [][]int{{0, 0}, {0, 1, 0}, {0, 1, 1, 0}, {0, 1, 2, 1, 2}, {3, 3, 0}} {
		realIs(t, 4, edges, path, false)
	}
}

// P15.1 to P15.3: few edges among many numbers.
func TestFewEdges(t *testing.T) {
	const n = 100000
	ranks, parts := make([]int, n), upTo(n)
	ranks[n-1], ranks[50000], ranks[0], ranks[70000] = 3, 2, 1, 1
	chain := same(50000, 0, 0, 1, n-1, 50000, 70000, 80000)
	free(t, n, chain, ranks, parts)
	parts[80000], parts[n-1], parts[3] = 70000, 2, 2
	looped(t, n, slices.Concat(chain, same(80000, 70000, n-1, 3, 3, 2, 2, n-1, n, n)), parts)
}

// R1: n may be any number: a cycle is found in room that hangs on the edges. Of more numbers than an answer may have nothing is promised but an end.
func TestManyNumbers(t *testing.T) {
	const n = math.MaxInt
	cycle, ok := Cycle(n, same(5, n-1, n-1, 7, 7, n-1, 0, n, n, 0))
	if !ok || !slices.Contains(cycle, 7) || !slices.Contains(cycle, n-1) || len(cycle) != 2 {
		t.Error(cycle, ok)
	}
	if cycle, ok := Cycle(n, same(5, n-1, n-1, 7, 0, n, n, 0)); ok || len(cycle) > 0 {
		t.Error(cycle, ok)
	}
	if ranks, ok := Ranks(n, same(5, n-1, n-1, 5)); ok || len(ranks) > 0 {
		t.Error(ranks, ok)
	}
	realIs(t, n, same(5, n-1, n-1, 5), []int{n - 1, 5}, true)
	realIs(t, n-1, same(5, n-1, n-1, 5), []int{n - 1, 5}, false)
	for _, many := range []int{math.MaxInt, 1 << 40, 1 << 31} {
		Ranks(many, same(5, 6))
		Parts(many, same(5, 6))
	}
}

// R3, R4: what is answered is the caller's own; edges and path stay as they were, and the same call answers the same.
func TestAnswersAreNew(t *testing.T) {
	tied, loose, path := same(0, 1, 1, 2, 2, 1, 3, 0), same(0, 1, 1, 2, 3, 0), []int{1, 2}
	cycle, _ := Cycle(4, tied)
	ranks, _ := Ranks(4, loose)
	parts := Parts(4, tied)
	first := slices.Clone(cycle)
	Real(4, tied, path)
	clear(cycle[:cap(cycle)])
	clear(ranks[:cap(ranks)])
	clear(parts[:cap(parts)])
	looped(t, 4, tied, []int{0, 1, 1, 3})
	free(t, 4, loose, []int{2, 1, 0, 3}, []int{0, 1, 2, 3})
	if again, _ := Cycle(4, tied); !slices.Equal(again, first) {
		t.Error(again, first)
	}
	if !slices.Equal(tied, same(0, 1, 1, 2, 2, 1, 3, 0)) || !slices.Equal(loose, same(0, 1, 1, 2, 3, 0)) || !slices.Equal(path, []int{1, 2}) {
		t.Error(tied, loose, path)
	}
}

// P15.1: schemas that ask themselves of the same instance, by the edges that layer 14 tells.
func TestSchemas(t *testing.T) {
	for text, want := range map[string]bool{
		`{"$ref":"#"}`: true,
		`{"$dynamicRef":"#d","$dynamicAnchor":"d"}`:                       true,
		`{"allOf":[{"not":{"$ref":"#"}}]}`:                                true,
		`{"$ref":"#/$defs/a","$defs":{"a":{"$ref":"#"}}}`:                 true,
		`{"$defs":{"a":{"if":{"$ref":"#/$defs/a"}}}}`:                     true,
		`{"properties":{"a":{"$ref":"#"}}}`:                               false,
		`{"$defs":{"a":{"$ref":"#"}},"items":{"$ref":"#/$defs/a"}}`:       false,
		`{"$ref":"#/$defs/a","$defs":{"a":{"prefixItems":[{"not":{}}]}}}`: false,
	} {
		table, fault := bundle.Read([]api.Doc{{Uri: "x:/a", Data: []byte(text)}})
		if fault.Code != api.OK {
			t.Fatal(text, fault)
		}
		edges, fault := refs.Edges(table)
		if fault.Code != api.OK {
			t.Fatal(text, fault)
		}
		if cycle, ok := Cycle(len(table.Schemas), edges); ok != want || ok != isCycle(len(table.Schemas), edges, cycle) {
			t.Error(text, cycle, ok)
		}
	}
}

// Package bindings holds the scopes of a program's dynamic anchors, each as one number.
package bindings

import (
	"slices"

	"caliper/api"
)

// Open is the scope in which no name is bound.
const Open = 0

// None is what stands instead of a form's number where no form is bound.
const None = -1

// Each node has as many parts as some bits of a place can tell.
const (
	bits  = 4
	parts = 1 << bits
)

// node is a piece of a scope. Its parts are numbers of nodes of the level below it; below the lowest one each stands for one name, and is Open or the number of the form bound, and one. In the node Open, of whatever level, nothing is bound.
type node [parts]int

// binding is what a resource binds: a name's place, and the form.
type binding struct {
	place int
	form  int
}

// entry is a scope in which a resource is entered.
type entry struct {
	scope    int
	resource int
}

// Scopes are a program's scopes, as trees. Like nodes have one number, so a scope is its topmost node's number, and what is entered makes new nodes only where it binds something: as rows of numbers, the scopes of a long chain of resources, each with a name of its own, would cost the square of its length.
type Scopes struct {
	places  map[string]int
	levels  int
	binds   map[int][]binding // by resources
	nodes   []node
	numbers map[node]int
	entered map[entry]int
}

// New has the scope Open alone.
func New(dyns []api.Dyn) *Scopes {
	s := &Scopes{
		places:  Places(dyns),
		binds:   map[int][]binding{},
		nodes:   []node{Open: {}},
		numbers: map[node]int{{}: Open},
		entered: map[entry]int{},
	}
	for room := 1; room < len(s.places); room *= parts {
		s.levels++
	}
	for _, d := range dyns {
		s.binds[d.Resource] = append(s.binds[d.Resource], binding{place: s.places[d.Name], form: d.Form})
	}
	// Places of one part stand together, so that its node is not made again for each of them.
	for _, row := range s.binds {
		slices.SortFunc(row, func(a, b binding) int { return a.place - b.place })
	}
	return s
}

// Places has each name of dynamic anchors with its place in a scope.
func Places(dyns []api.Dyn) map[string]int {
	at := map[string]int{}
	for _, d := range dyns {
		if _, ok := at[d.Name]; !ok {
			at[d.Name] = len(at)
		}
	}
	return at
}

// Enter is the scope that another one becomes when a resource is entered.
func (s *Scopes) Enter(scope int, resource int) int {
	row := s.binds[resource]
	if len(row) == 0 {
		return scope
	}
	e := entry{scope: scope, resource: resource}
	number, ok := s.entered[e]
	if !ok {
		number = s.bind(scope, row, s.levels)
		s.entered[e] = number
	}
	return number
}

// Bound is the form that a scope has for a name, or None.
func (s *Scopes) Bound(scope int, name string) int {
	place, ok := s.places[name]
	if !ok {
		return None
	}
	number := scope
	for levels := s.levels; levels > 0; levels-- {
		number = s.nodes[number][partOf(place, levels)]
	}
	return number - 1
}

// bind is what becomes of a node with some levels in it, if what is open of a row's places in it is bound.
func (s *Scopes) bind(number int, row []binding, levels int) int {
	if levels == 0 {
		if number == Open {
			return row[0].form + 1
		}
		return number
	}
	n := s.nodes[number]
	for len(row) > 0 {
		part := partOf(row[0].place, levels)
		like := 1
		for like < len(row) && partOf(row[like].place, levels) == part {
			like++
		}
		n[part] = s.bind(n[part], row[:like], levels-1)
		row = row[like:]
	}
	return s.numberOf(n)
}

func (s *Scopes) numberOf(n node) int {
	number, ok := s.numbers[n]
	if !ok {
		number = len(s.nodes)
		s.numbers[n] = number
		s.nodes = append(s.nodes, n)
	}
	return number
}

// partOf is the part in which a place stands of a node with some levels in it.
func partOf(place int, levels int) int {
	return place >> (bits * (levels - 1)) % parts
}

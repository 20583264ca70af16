package refs

import (
	"iter"
	"strings"

	"caliper/api"
	"caliper/bundle"
	"caliper/pointer"
	"caliper/shape"
	"caliper/uri"
)

// gathering are a table's edges, as far as they have come. The schemas' numbers stand beside them by their places: asked of the table one by one, they would cost the square of how many there are.
type gathering struct {
	table  api.Table
	places map[api.Place]int
	edges  []api.Edge
}

// places are the schemas' numbers by their places. Of several at one place, which no Read makes, the first counts, as bundle has it.
func places(t api.Table) map[api.Place]int {
	all := make(map[api.Place]int, len(t.Schemas))
	for n := range t.Schemas {
		if _, known := all[t.Schemas[n].At]; !known {
			all[t.Schemas[n].At] = n
		}
	}
	return all
}

// gather puts the edges from a schema, member by member; or it tells the word of the first reference to nothing, and false.
func (g *gathering) gather(n int) (string, bool) {
	for key, subs := range members(g.table.Schemas[n].V) {
		if isReference(key) && !g.follow(n, key) {
			return key, false
		}
		g.descend(n, key, subs)
	}
	return "", true
}

// follow puts the edges of a reference; false, if it leads to nothing.
func (g *gathering) follow(n int, word string) bool {
	to, name, errno := target(g.table, n, word, g.find)
	if errno != api.OK {
		return false
	}
	g.put(n, to, word, name)
	if name == "" {
		return true
	}
	for _, other := range Named(g.table, name) {
		if other != to {
			g.put(n, other, word, name)
		}
	}
	return true
}

// descend puts the edges to the schemas that a member holds. A table that no Read made may lack them: then there is nothing to lead to.
func (g *gathering) descend(n int, key string, subs []string) {
	for _, sub := range subs {
		if to, errno := g.within(n, sub); errno == api.OK {
			g.put(n, to, key, "")
		}
	}
}

func (g *gathering) put(from, to int, word, name string) {
	g.edges = append(g.edges, api.Edge{From: from, To: to, Word: word, Same: shape.Same(word), Dynamic: name})
}

// find is bundle's Find, which goes through all schemas for each pointer: here the resource alone is asked for, and the place is known.
func (g *gathering) find(s string) (int, api.Errno) {
	head, fragment := uri.Bare(s)
	text, errno := pointer.Unescape(fragment)
	if errno != api.OK || !strings.HasPrefix(text, "/") {
		return bundle.Find(g.table, s)
	}
	n, errno := bundle.Find(g.table, head)
	if errno != api.OK {
		return 0, errno
	}
	return g.within(n, text)
}

// within is the schema at a pointer from another one on.
func (g *gathering) within(n int, way string) (int, api.Errno) {
	at := g.table.Schemas[n].At
	at.Pointer += way
	to, ok := g.places[at]
	if !ok {
		return 0, api.ErrRef
	}
	return to, api.OK
}

// members gives an object's keys in their order, each with the pointers of the schemas that it holds. Subs is asked once of the whole, and each key takes off its front what is its own.
func members(v api.Value) iter.Seq2[string, []string] {
	return func(yield func(string, []string) bool) {
		if v.Kind != api.Object {
			return
		}
		subs := shape.Subs(v)
		for _, key := range v.Keys {
			own := countOwn(subs, key)
			if !yield(key, subs[:own]) {
				return
			}
			subs = subs[own:]
		}
	}
}

// countOwn is how many pointers, from the first one on, lead into a key's value.
func countOwn(subs []string, key string) int {
	head := pointer.Text(key)
	own := 0
	for own < len(subs) && (subs[own] == head || strings.HasPrefix(subs[own], head+"/")) {
		own++
	}
	return own
}

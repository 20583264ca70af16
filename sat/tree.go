package sat

import "caliper/api"

// node is a value that may be asked. What is in it gets numbers, in a row, when it is asked for: 0, the number of the whole value, if it was not yet.
type node struct {
	value    *api.Value
	elements int  // the first element's number
	keys     int  // the number of the first key, as a string
	found    bool // whether the places of its keys are known
}

// member is a key of the object that has this number.
type member struct {
	node int
	key  string
}

// tree is a value and what is in it, each with a number: places in it tell apart what was asked, not equal values.
type tree struct {
	nodes  []node
	places map[member]int
}

func newTree(v *api.Value) *tree {
	return &tree{nodes: []node{{value: v}}, places: map[member]int{}}
}

// elementsOf is the number of the first element of a value; the others' are those behind it.
func (t *tree) elementsOf(number int) int {
	if t.nodes[number].elements == 0 {
		t.nodes[number].elements = len(t.nodes)
		list := t.nodes[number].value.List
		for i := range list {
			t.nodes = append(t.nodes, node{value: &list[i]})
		}
	}
	return t.nodes[number].elements
}

// keysOf is the number of the first key of an object; the others' are those behind it.
func (t *tree) keysOf(number int) int {
	if t.nodes[number].keys == 0 {
		t.nodes[number].keys = len(t.nodes)
		for _, key := range t.nodes[number].value.Keys {
			t.nodes = append(t.nodes, node{value: &api.Value{Kind: api.String, Text: key}})
		}
	}
	return t.nodes[number].keys
}

// placeOf is the place of a key in an object, and whether it is there. Only once all of them are gone through: an object may have many keys, and many may be asked for.
func (t *tree) placeOf(number int, key string) (int, bool) {
	if !t.nodes[number].found {
		t.nodes[number].found = true
		for place, key := range t.nodes[number].value.Keys {
			t.places[member{node: number, key: key}] = place
		}
	}
	place, ok := t.places[member{node: number, key: key}]
	return place, ok
}

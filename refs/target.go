package refs

import (
	"caliper/api"
	"caliper/pointer"
	"caliper/uri"
	"caliper/value"
)

// The words that hold references.
const (
	plainWord   = "$ref"
	dynamicWord = "$dynamicRef"
)

// isReference tells whether a key is one of the words that hold references.
func isReference(key string) bool {
	return key == plainWord || key == dynamicWord
}

// target is what a reference names, by a function that finds schemas by their URIs: who asks for many may have a shorter way than who asks for one.
func target(t api.Table, n int, word string, find func(string) (int, api.Errno)) (int, string, api.Errno) {
	held, ok := heldBy(t, n, word)
	if !ok {
		return 0, "", api.ErrArg
	}
	to, errno := found(t.Schemas[n].Base, held, find)
	if errno != api.OK {
		return 0, "", api.ErrRef
	}
	if word == plainWord {
		return to, "", api.OK
	}
	return to, dynamicName(t, to, held.Text), api.OK
}

// heldBy is what a schema's word holds; not ok, if there is no such schema, or it has no such word.
func heldBy(t api.Table, n int, word string) (api.Value, bool) {
	if n < 0 || n >= len(t.Schemas) || !isReference(word) {
		return api.Value{}, false
	}
	return value.Get(t.Schemas[n].V, word)
}

// found is the schema that a reference leads to from a base. In a table that no Read made a word may hold something else than a text: that leads nowhere, not to the base, as an empty text would.
func found(base string, held api.Value, find func(string) (int, api.Errno)) (int, api.Errno) {
	if held.Kind != api.String {
		return 0, api.ErrRef
	}
	joined, errno := uri.Join(base, held.Text)
	if errno != api.OK {
		return 0, errno
	}
	return find(joined)
}

// dynamicName is the name by which a reference leads to a schema, if a dynamic anchor there has it; else it is empty.
func dynamicName(t api.Table, n int, reference string) string {
	_, fragment := uri.Bare(reference)
	name, _ := pointer.Unescape(fragment)
	for _, a := range t.Anchors {
		if a.Dynamic && a.Schema == n && a.Name == name {
			return name
		}
	}
	return ""
}

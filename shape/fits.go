package shape

import (
	"slices"
	"strings"

	"caliper/api"
	"caliper/dec"
	"caliper/rx"
	"caliper/uri"
	"caliper/value"
)

// vocabularies is how the known vocabularies' names begin.
const vocabularies = "https://json-schema.org/draft/2020-12/vocab/"

// form asks what a member's value must be, but for schemas in it and for keys that should be patterns.
func form(k kind, v api.Value) api.Errno {
	switch k {
	case pattern:
		return patternForm(v)
	case vocabulary:
		return vocabularyForm(v)
	}
	if !fits(k, v) {
		return api.ErrShape
	}
	return api.OK
}

// fits asks the kinds of which nothing but ErrShape is told.
func fits(k kind, v api.Value) bool {
	switch k {
	case rowOfSchemas:
		return v.Kind == api.Array && len(v.List) > 0
	case schemasByName, schemasByPattern:
		return v.Kind == api.Object
	case ownURI, reference, absoluteURI, anchorName, text:
		return v.Kind == api.String && textFits(k, v.Text)
	case flag:
		return isFlag(v)
	case row:
		return v.Kind == api.Array
	case types:
		return isType(v) || len(v.List) > 0 && areUnlike(v, isType)
	case number:
		return v.Kind == api.Number
	case aboveNought:
		return v.Kind == api.Number && isAboveNought(v.Num)
	case count:
		return Count(v) >= 0
	case names:
		return areNames(v)
	case namesByName:
		return v.Kind == api.Object && allAre(v.List, areNames)
	}
	return true
}

func textFits(k kind, s string) bool {
	switch k {
	case ownURI:
		u, errno := uri.Parse(s)
		return errno == api.OK && u.Fragment == ""
	case reference:
		_, errno := uri.Parse(s)
		return errno == api.OK
	case absoluteURI:
		return uri.Absolute(s)
	case anchorName:
		return Name(s)
	}
	return true
}

func patternForm(v api.Value) api.Errno {
	if v.Kind != api.String {
		return api.ErrShape
	}
	return asPattern(v.Text)
}

func asPattern(s string) api.Errno {
	if _, errno := rx.Parse(s); errno != api.OK {
		return api.ErrRx
	}
	return api.OK
}

// vocabularyForm asks whether all is as it must be ahead of asking whether what is needed is known.
func vocabularyForm(v api.Value) api.Errno {
	if v.Kind != api.Object || !allAre(v.Keys, uri.Absolute) || !allAre(v.List, isFlag) {
		return api.ErrShape
	}
	for i := range members(v) {
		if v.List[i].Kind == api.True && !isKnown(v.Keys[i]) {
			return api.ErrVocab
		}
	}
	return api.OK
}

func isKnown(key string) bool {
	name, ok := strings.CutPrefix(key, vocabularies)
	if !ok {
		return false
	}
	switch name {
	case "applicator", "content", "core", "format-annotation", "meta-data", "unevaluated", "validation":
		return true
	}
	return false
}

func isFlag(v api.Value) bool {
	return v.Kind == api.True || v.Kind == api.False
}

func isType(v api.Value) bool {
	switch v.Text {
	case "array", "boolean", "integer", "null", "number", "object", "string":
		return v.Kind == api.String
	}
	return false
}

func isAboveNought(d api.Dec) bool {
	order, errno := dec.Compare(d, api.Dec{})
	return errno == api.OK && order > 0
}

func areNames(v api.Value) bool {
	return areUnlike(v, isText)
}

func isText(v api.Value) bool {
	return v.Kind == api.String
}

// areUnlike tells whether a value is an array of such elements, no two of them alike.
func areUnlike(v api.Value, such func(api.Value) bool) bool {
	return v.Kind == api.Array && allAre(v.List, such) && value.Unique(v.List)
}

func allAre[T any](list []T, such func(T) bool) bool {
	return !slices.ContainsFunc(list, func(element T) bool { return !such(element) })
}

func beginsName(c byte) bool {
	return 'a' <= c && c <= 'z' || 'A' <= c && c <= 'Z' || c == '_'
}

func goesOnName(c byte) bool {
	return '0' <= c && c <= '9' || c == '-' || c == '.'
}

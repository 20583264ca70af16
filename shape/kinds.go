package shape

import "strings"

// kind is what a keyword holds.
type kind int

// The kinds. That of keys that are none of the table's is 0: a map answers it of all that it lacks.
const (
	anything kind = iota
	oneSchema
	rowOfSchemas
	schemasByName
	schemasByPattern
	ownURI
	reference
	absoluteURI
	anchorName
	vocabulary
	text
	flag
	row
	types
	number
	aboveNought
	count
	pattern
	names
	namesByName
)

// table has the keywords' kinds.
type table map[string]kind

// kinds makes the table. It stands here as in the chapter, row by row, so that the two can be held against each other.
func kinds() table {
	made := make(table)
	made.put(oneSchema, "additionalProperties contains contentSchema else if items not propertyNames then unevaluatedItems unevaluatedProperties")
	made.put(rowOfSchemas, "allOf anyOf oneOf prefixItems")
	made.put(schemasByName, "$defs dependentSchemas properties")
	made.put(schemasByPattern, "patternProperties")
	made.put(ownURI, "$id")
	made.put(reference, "$ref $dynamicRef")
	made.put(absoluteURI, "$schema")
	made.put(anchorName, "$anchor $dynamicAnchor")
	made.put(vocabulary, "$vocabulary")
	made.put(text, "$comment contentEncoding contentMediaType description format title")
	made.put(flag, "deprecated readOnly uniqueItems writeOnly")
	made.put(row, "enum examples")
	made.put(types, "type")
	made.put(number, "exclusiveMaximum exclusiveMinimum maximum minimum")
	made.put(aboveNought, "multipleOf")
	made.put(count, "maxContains maxItems maxLength maxProperties minContains minItems minLength minProperties")
	made.put(pattern, "pattern")
	made.put(names, "required")
	made.put(namesByName, "dependentRequired")
	return made
}

func (t table) put(k kind, keys string) {
	for _, key := range strings.Fields(keys) {
		t[key] = k
	}
}

// Package copies makes lists in new memory, so that an answer shares none with what was handed in.
package copies

import "caliper/api"

// Row is a row in new memory. An empty one has none at all, not even that of the row.
func Row[T any](row []T) []T {
	return append([]T(nil), row...)
}

// Rule is a rule whose lists are its own.
func Rule(r api.Rule) api.Rule {
	r.Names, r.Pats, r.Subs = Row(r.Names), Row(r.Pats), Row(r.Subs)
	r.Vals = Values(r.Vals)
	return r
}

// Values are values whose lists are their own, down to the innermost.
func Values(row []api.Value) []api.Value {
	row = Row(row)
	for i := range row {
		row[i].Keys, row[i].List = Row(row[i].Keys), Values(row[i].List)
	}
	return row
}

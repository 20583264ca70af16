package plain

import "caliper/api"

// fresh is a row in new memory. An empty one has none at all, not even that of the row.
func fresh[T any](row []T) []T {
	return append([]T(nil), row...)
}

// copied is a rule whose lists are its own.
func copied(r api.Rule) api.Rule {
	r.Names, r.Pats, r.Subs = fresh(r.Names), fresh(r.Pats), fresh(r.Subs)
	r.Vals = copiedValues(r.Vals)
	return r
}

func copiedValues(row []api.Value) []api.Value {
	row = fresh(row)
	for i := range row {
		row[i].Keys, row[i].List = fresh(row[i].Keys), copiedValues(row[i].List)
	}
	return row
}

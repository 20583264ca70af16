package ir

import (
	"slices"

	"caliper/api"
	"caliper/dec"
	"caliper/rx"
	"caliper/utf"
	"caliper/value"
)

// greatestCount is the most that layer 12 tells as a count.
const greatestCount = 1000000000

// mayBe tells whether a program is one.
func mayBe(p api.Prog) bool {
	isForm := func(n int) bool { return n >= 0 && n < len(p.Forms) }
	ruleFits := func(r api.Rule) bool { return fits(r) && subsFit(r, isForm) }
	formFits := func(f api.Form) bool {
		return isForm(f.Resource) && (!f.Never || len(f.Rules) == 0) && allAre(f.Rules, ruleFits)
	}
	dynFits := func(d api.Dyn) bool { return isForm(d.Resource) && isForm(d.Form) && isText(d.Name) }
	return isForm(p.Root) && allAre(p.Forms, formFits) && allAre(p.Dyns, dynFits) && areUnlike(p.Dyns)
}

// areUnlike tells whether no two dynamic anchors of one resource have one name, whichever their forms.
func areUnlike(dyns []api.Dyn) bool {
	seen := map[api.Dyn]struct{}{}
	for _, d := range dyns {
		seen[api.Dyn{Resource: d.Resource, Name: d.Name}] = struct{}{}
	}
	return len(seen) == len(dyns)
}

// fits tells whether a rule has what its kind needs and nothing else, but for which forms there are.
func fits(r api.Rule) bool {
	n, ok := needsOf(r)
	return ok && listsFit(r, n) && numbersFit(r, n) && elementsFit(r)
}

func listsFit(r api.Rule, n needs) bool {
	return isLong(r.Names, n.names) && isLong(r.Vals, n.vals) && isLong(r.Pats, n.pats) && isLong(r.Subs, n.subs)
}

func numbersFit(r api.Rule, n needs) bool {
	return numberFits(r, n.number) &&
		(r.N == 0 || n.count && isWithin(r.N, 0)) &&
		(r.M == 0 || n.limit && isWithin(r.M, -1))
}

func numberFits(r api.Rule, needed bool) bool {
	if !needed {
		return r.Num == api.Dec{}
	}
	order, errno := dec.Compare(r.Num, api.Dec{})
	return errno == api.OK && (r.Kind != api.RuMultiple || order > 0)
}

func elementsFit(r api.Rule) bool {
	isName := isText
	if r.Kind == api.RuType {
		isName = isType
	}
	return allAre(r.Names, isName) && allAre(r.Vals, isValue) && allAre(r.Pats, isPattern)
}

// subsFit tells whether a rule's Subs are forms; of a condition those behind the first may be missing.
func subsFit(r api.Rule, isForm func(int) bool) bool {
	if r.Kind != api.RuIf {
		return allAre(r.Subs, isForm)
	}
	isBranch := func(n int) bool { return n == noForm || isForm(n) }
	return isForm(r.Subs[0]) && allAre(r.Subs[1:], isBranch)
}

// allAre tells whether all elements of a row are such.
func allAre[T any](row []T, such func(T) bool) bool {
	return !slices.ContainsFunc(row, func(element T) bool { return !such(element) })
}

func isLong[T any](row []T, s span) bool {
	return len(row) >= s.least && len(row) <= s.most
}

func isWithin(n int, least int) bool {
	return n >= least && n <= greatestCount
}

func isText(s string) bool {
	_, ok := utf.Good([]byte(s))
	return ok
}

func isType(s string) bool {
	switch s {
	case "array", "boolean", "integer", "null", "number", "object", "string":
		return true
	}
	return false
}

func isValue(v api.Value) bool {
	return value.Check(v) == api.OK
}

func isPattern(s string) bool {
	_, errno := rx.Parse(s)
	return errno == api.OK
}

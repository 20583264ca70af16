package ir

import (
	"math"

	"caliper/api"
)

// span is how long a list may be. The zero span is that of a list that may not be there.
type span struct {
	least int
	most  int
}

func just(n int) span {
	return span{least: n, most: n}
}

func atLeast(n int) span {
	return span{least: n, most: math.MaxInt}
}

// needs is what a rule has: how long its lists are, and which of its numbers are there.
type needs struct {
	names  span
	vals   span
	pats   span
	subs   span
	number bool
	count  bool
	limit  bool
}

// needsOf is what a rule of its kind has; not ok, if there is no such kind.
func needsOf(r api.Rule) (needs, bool) {
	switch r.Kind {
	case api.RuType, api.RuDepends:
		return needs{names: atLeast(1)}, true
	case api.RuConst:
		return needs{vals: just(1)}, true
	case api.RuEnum:
		return needs{vals: atLeast(0)}, true
	case api.RuMultiple, api.RuMax, api.RuMaxOut, api.RuMin, api.RuMinOut:
		return needs{number: true}, true
	case api.RuLongest, api.RuShortest, api.RuMostItems, api.RuLeastItems, api.RuMostProps, api.RuLeastProps:
		return needs{count: true}, true
	case api.RuPattern:
		return needs{pats: just(1)}, true
	case api.RuUnique:
		return needs{}, true
	case api.RuRequired:
		return needs{names: atLeast(0)}, true
	case api.RuAll, api.RuAny, api.RuOne, api.RuPrefix:
		return needs{subs: atLeast(0)}, true
	case api.RuNot, api.RuRef, api.RuNames, api.RuLeftItems, api.RuLeftProps:
		return needs{subs: just(1)}, true
	case api.RuIf:
		return needs{subs: just(3)}, true
	case api.RuWhen, api.RuDynamic:
		return needs{names: just(1), subs: just(1)}, true
	case api.RuItems:
		return needs{subs: just(1), count: true}, true
	case api.RuContains:
		return needs{subs: just(1), count: true, limit: true}, true
	case api.RuProps:
		return needs{names: atLeast(0), subs: just(len(r.Names))}, true
	case api.RuMatching:
		return needs{pats: atLeast(0), subs: just(len(r.Pats))}, true
	case api.RuRest:
		return needs{names: atLeast(0), pats: atLeast(0), subs: just(1)}, true
	}
	return needs{}, false
}

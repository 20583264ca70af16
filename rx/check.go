package rx

import (
	"slices"

	"caliper/api"
)

// maxLevels is how many levels a tree may have.
const maxLevels = 1000

// mayBe tells whether a tree of at most so many levels may be.
func mayBe(x api.Rx, levels int) bool {
	if levels == 0 || !hasItsOwn(x) {
		return false
	}
	for _, sub := range x.Sub {
		if !mayBe(sub, levels-1) {
			return false
		}
	}
	return true
}

// hasItsOwn tells whether a node has what its kind has, and nothing else.
func hasItsOwn(x api.Rx) bool {
	switch x.Kind {
	case api.RxEmpty, api.RxBegin, api.RxEnd, api.RxWord, api.RxNoWord:
		return len(x.Sub) == 0 && len(x.Ranges) == 0 && hasNoCount(x)
	case api.RxSet:
		return len(x.Sub) == 0 && isSet(x.Ranges) && hasNoCount(x)
	case api.RxSeq, api.RxAlt:
		return len(x.Sub) >= 2 && len(x.Ranges) == 0 && hasNoCount(x)
	case api.RxRepeat:
		return len(x.Sub) == 1 && len(x.Ranges) == 0 && hasCount(x)
	}
	return false
}

// isSet tells whether ranges are a set: what is one, Merge leaves as it is.
func isSet(l []api.Range) bool {
	return slices.Equal(Merge(l), l)
}

func hasNoCount(x api.Rx) bool {
	return x.Min == 0 && x.Max == 0 && !x.Lazy
}

func hasCount(x api.Rx) bool {
	if x.Min < 0 || x.Min > api.MaxRepeat {
		return false
	}
	return x.Max == noEnd || x.Max >= x.Min && x.Max <= api.MaxRepeat
}

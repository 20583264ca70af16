package nfa

import (
	"caliper/api"
	"caliper/rx"
)

// mayBe tells whether a state may be one of so many.
func mayBe(s api.State, states int) bool {
	isState := func(at int) bool { return at >= 0 && at < states }
	switch s.Kind {
	case api.StSet:
		return isState(s.A) && s.B == 0 && isSet(s.Ranges)
	case api.StFork:
		return isState(s.A) && isState(s.B) && len(s.Ranges) == 0
	case api.StBegin, api.StFinish, api.StWord, api.StNoWord:
		return isState(s.A) && s.B == 0 && len(s.Ranges) == 0
	case api.StDone:
		return s.A == 0 && s.B == 0 && len(s.Ranges) == 0
	}
	return false
}

// isSet tells whether ranges are a set: if so, there is a tree of it.
func isSet(l []api.Range) bool {
	return rx.Check(api.Rx{Kind: api.RxSet, Ranges: l}) == api.OK
}

package sat

import "caliper/api"

// all stands instead of a kind of values where a rule speaks of all kinds.
const all api.Kind = -1

// way is how rules of a kind are asked: of which kind of values they speak, and by which method.
type way struct {
	of  api.Kind
	ask func(a *asking, r api.Rule) demand
}

// ways has the way of each kind of rules.
func ways() map[api.RuleKind]way {
	return map[api.RuleKind]way{
		api.RuType:       {all, (*asking).types},
		api.RuConst:      {all, (*asking).values},
		api.RuEnum:       {all, (*asking).values},
		api.RuMultiple:   {api.Number, (*asking).multiple},
		api.RuMax:        {api.Number, (*asking).atMost},
		api.RuMaxOut:     {api.Number, (*asking).below},
		api.RuMin:        {api.Number, (*asking).atLeast},
		api.RuMinOut:     {api.Number, (*asking).above},
		api.RuLongest:    {api.String, (*asking).longest},
		api.RuShortest:   {api.String, (*asking).shortest},
		api.RuPattern:    {api.String, (*asking).pattern},
		api.RuMostItems:  {api.Array, (*asking).mostElements},
		api.RuLeastItems: {api.Array, (*asking).leastElements},
		api.RuUnique:     {api.Array, (*asking).unique},
		api.RuMostProps:  {api.Object, (*asking).mostElements},
		api.RuLeastProps: {api.Object, (*asking).leastElements},
		api.RuRequired:   {api.Object, (*asking).required},
		api.RuDepends:    {api.Object, (*asking).depends},
		api.RuAll:        {all, (*asking).allSubs},
		api.RuAny:        {all, (*asking).someSubs},
		api.RuOne:        {all, (*asking).oneSub},
		api.RuNot:        {all, (*asking).noSub},
		api.RuIf:         {all, (*asking).branch},
		api.RuWhen:       {api.Object, (*asking).when},
		api.RuRef:        {all, (*asking).allSubs},
		api.RuDynamic:    {all, (*asking).dynamic},
		api.RuPrefix:     {api.Array, (*asking).prefix},
		api.RuItems:      {api.Array, (*asking).items},
		api.RuContains:   {api.Array, (*asking).contains},
		api.RuProps:      {api.Object, (*asking).props},
		api.RuMatching:   {api.Object, (*asking).matching},
		api.RuRest:       {api.Object, (*asking).rest},
		api.RuNames:      {api.Object, (*asking).keys},
		api.RuLeftItems:  {api.Array, (*asking).left},
		api.RuLeftProps:  {api.Object, (*asking).left},
	}
}

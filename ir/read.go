package ir

import (
	"slices"
	"strings"

	"caliper/api"
	"caliper/shape"
)

// The keys that are named beside the table of ways.
const (
	ifKey      = "if"
	thenKey    = "then"
	elseKey    = "else"
	dynamicKey = "$dynamicRef"
)

// order has the keys that rules come from, as their rules stand.
const order = "type const enum multipleOf maximum exclusiveMaximum minimum exclusiveMinimum maxLength minLength pattern " +
	"maxItems minItems uniqueItems maxProperties minProperties required dependentRequired " +
	"$ref " + dynamicKey + " allOf anyOf oneOf not " + ifKey + " dependentSchemas prefixItems items contains " +
	"properties patternProperties additionalProperties propertyNames unevaluatedItems unevaluatedProperties"

// way is how a key is read: as rules of which kind, by which method.
type way struct {
	kind api.RuleKind
	read func(*reading, member)
}

// ways has each key's way.
func ways() map[string]way {
	return map[string]way{
		"type":                  {api.RuType, (*reading).names},
		"const":                 {api.RuConst, (*reading).constant},
		"enum":                  {api.RuEnum, (*reading).choice},
		"multipleOf":            {api.RuMultiple, (*reading).number},
		"maximum":               {api.RuMax, (*reading).number},
		"exclusiveMaximum":      {api.RuMaxOut, (*reading).number},
		"minimum":               {api.RuMin, (*reading).number},
		"exclusiveMinimum":      {api.RuMinOut, (*reading).number},
		"maxLength":             {api.RuLongest, (*reading).count},
		"minLength":             {api.RuShortest, (*reading).count},
		"pattern":               {api.RuPattern, (*reading).pattern},
		"maxItems":              {api.RuMostItems, (*reading).count},
		"minItems":              {api.RuLeastItems, (*reading).count},
		"uniqueItems":           {api.RuUnique, (*reading).flag},
		"maxProperties":         {api.RuMostProps, (*reading).count},
		"minProperties":         {api.RuLeastProps, (*reading).count},
		"required":              {api.RuRequired, (*reading).names},
		"dependentRequired":     {api.RuDepends, (*reading).namesByName},
		"$ref":                  {api.RuRef, (*reading).schema},
		dynamicKey:              {api.RuRef, (*reading).schema},
		"allOf":                 {api.RuAll, (*reading).row},
		"anyOf":                 {api.RuAny, (*reading).row},
		"oneOf":                 {api.RuOne, (*reading).row},
		"not":                   {api.RuNot, (*reading).schema},
		ifKey:                   {api.RuIf, (*reading).condition},
		"dependentSchemas":      {api.RuWhen, (*reading).schemasByName},
		"prefixItems":           {api.RuPrefix, (*reading).row},
		"items":                 {api.RuItems, (*reading).items},
		"contains":              {api.RuContains, (*reading).contains},
		"properties":            {api.RuProps, (*reading).properties},
		"patternProperties":     {api.RuMatching, (*reading).matching},
		"additionalProperties":  {api.RuRest, (*reading).rest},
		"propertyNames":         {api.RuNames, (*reading).schema},
		"unevaluatedItems":      {api.RuLeftItems, (*reading).schema},
		"unevaluatedProperties": {api.RuLeftProps, (*reading).schema},
	}
}

// member is a key that is read, the kind of its rules, and what it holds.
type member struct {
	key  string
	kind api.RuleKind
	held api.Value
}

// reading is a schema that is read: its rules, as far as they have come, and beside each the key that it comes from.
type reading struct {
	whole api.Value
	rules []api.Rule
	keys  []string
}

// read is a schema's form, and beside each rule the key that it comes from.
func read(v api.Value) (api.Form, []string) {
	if _, errno := shape.Check(v); errno != api.OK {
		return api.Form{}, nil
	}
	r := reading{whole: v}
	known := ways()
	for _, key := range strings.Fields(order) {
		if held, ok := r.held(key); ok {
			known[key].read(&r, member{key: key, kind: known[key].kind, held: held})
		}
	}
	return api.Form{Never: v.Kind == api.False, Rules: r.rules}, r.keys
}

// held is what a key of the schema holds. It is a piece of the schema, not a copy: of a nest, copies of what is in each level would cost the square of the depth.
func (r *reading) held(key string) (api.Value, bool) {
	at := slices.Index(r.whole.Keys, key)
	if at < 0 {
		return api.Value{}, false
	}
	return r.whole.List[at], true
}

// put makes a rule of its parts, behind those that have come.
func (r *reading) put(m member, parts ...part) {
	rule := api.Rule{Kind: m.kind}
	for _, add := range parts {
		add(&rule)
	}
	r.rules = append(r.rules, rule)
	r.keys = append(r.keys, m.key)
}

package ir

import (
	"slices"

	"caliper/api"
)

// What stands in Subs instead of a form's number.
const (
	noForm   = -1 // there is none
	openForm = -2 // it is not known yet
)

// part puts something into a rule that is being made. Lists go behind what is there, so that they are the rule's own.
type part func(*api.Rule)

func named(names ...string) part {
	return func(rule *api.Rule) { rule.Names = append(rule.Names, names...) }
}

func patterned(patterns ...string) part {
	return func(rule *api.Rule) { rule.Pats = append(rule.Pats, patterns...) }
}

func valued(values ...api.Value) part {
	return func(rule *api.Rule) { rule.Vals = append(rule.Vals, values...) }
}

func measured(number api.Dec) part {
	return func(rule *api.Rule) { rule.Num = number }
}

func counted(n int) part {
	return func(rule *api.Rule) { rule.N = n }
}

func limited(m int) part {
	return func(rule *api.Rule) { rule.M = m }
}

func asking(subs ...int) part {
	return func(rule *api.Rule) { rule.Subs = append(rule.Subs, subs...) }
}

// open are so many Subs that are not known yet.
func open(n int) []int {
	return slices.Repeat([]int{openForm}, n)
}

// textsOf are the texts of an array of strings, or of a string alone.
func textsOf(v api.Value) []string {
	if v.Kind == api.String {
		return []string{v.Text}
	}
	texts := make([]string, 0, len(v.List))
	for _, element := range v.List {
		texts = append(texts, element.Text)
	}
	return texts
}

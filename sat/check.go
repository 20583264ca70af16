package sat

import (
	"caliper/api"
	"caliper/bindings"
	"caliper/ir"
	"caliper/loops"
	"caliper/nfa"
	"caliper/rx"
)

// hasCycle tells whether the edges of layer 16's Same have a cycle. From a dynamic reference they lead to all forms of its name; here they do so by way of a number that the name has, behind those of the forms: many references and many forms of one name would have edges by the square of their number.
func hasCycle(p api.Prog) bool {
	names := bindings.Places(p.Dyns)
	numberOf := func(name string) int { return len(p.Forms) + names[name] }
	edges := ir.Same(api.Prog{Forms: p.Forms, Root: p.Root})
	for _, d := range p.Dyns {
		edges = append(edges, api.Edge{From: numberOf(d.Name), To: d.Form, Same: true})
	}
	for from, f := range p.Forms {
		for _, r := range f.Rules {
			if r.Kind != api.RuDynamic {
				continue
			}
			if _, ok := names[r.Names[0]]; ok {
				edges = append(edges, api.Edge{From: from, To: numberOf(r.Names[0]), Same: true})
			}
		}
	}
	_, ok := loops.Cycle(len(p.Forms)+len(names), edges)
	return ok
}

// hasGreatPattern tells whether a pattern has more states than an automaton may have.
func hasGreatPattern(p api.Prog) bool {
	for _, f := range p.Forms {
		for _, r := range f.Rules {
			for _, pattern := range r.Pats {
				if isGreat(pattern) {
					return true
				}
			}
		}
	}
	return false
}

func isGreat(pattern string) bool {
	x, _ := rx.Parse(pattern)
	size, _ := nfa.Size(x, api.MaxStates)
	return size > api.MaxStates
}

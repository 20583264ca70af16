package sat

import (
	"caliper/api"
	"caliper/bindings"
)

// question is a form in a scope, in which its resource is entered, that is asked of a value: each by its number.
type question struct {
	form  int
	scope int
	node  int
}

// answer tells whether the form takes the value, and the marks that it leaves.
type answer struct {
	takes bool
	marks marks
}

// program is a program that is asked of a value and of what is in it.
type program struct {
	api.Prog
	*tree
	automata
	ways   map[api.RuleKind]way
	scopes *bindings.Scopes
	known  map[question]answer
}

func newProgram(p api.Prog, v *api.Value) *program {
	return &program{
		Prog:     p,
		tree:     newTree(v),
		automata: automata{kept: map[string][]api.State{}},
		ways:     ways(),
		scopes:   bindings.New(p.Dyns),
		known:    map[question]answer{},
	}
}

// questionOf is how a form is asked of a value in a scope.
func (p *program) questionOf(form int, scope int, node int) question {
	return question{form: form, scope: p.scopes.Enter(scope, p.Forms[form].Resource), node: node}
}

func (p *program) begin(q question) *asking {
	return &asking{program: p, question: q, value: p.nodes[q.node].value}
}

// answerOfRoot is what the program says of the whole value.
//
// What is asked stands in a list, and not in calls in one another: each of the levels of a value may be asked by a long row of forms, and the stack has no room for all of them. No question waits for itself, as those of one value have no cycle.
func (p *program) answerOfRoot() answer {
	root := p.questionOf(p.Root, bindings.Open, 0)
	waiting := []*asking{p.begin(root)}
	for len(waiting) > 0 {
		last := waiting[len(waiting)-1]
		if q, ok := last.goOn(); ok {
			waiting = append(waiting, p.begin(q))
			continue
		}
		p.known[last.question] = last.answer()
		waiting = waiting[:len(waiting)-1]
	}
	return p.known[root]
}

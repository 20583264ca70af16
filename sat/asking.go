package sat

import "caliper/api"

// asking is a question that is under way.
type asking struct {
	*program
	question
	value  *api.Value
	next   int    // the number of the rule that is asked next
	demand demand // what is left of the last one's
	came   marks  // the elements that it took so far
	marks  marks  // what came of the value itself, and of the rules ahead
}

// goOn asks rule by rule, up to the first question that is not known yet; it tells that one, and whether there is one.
func (a *asking) goOn() (question, bool) {
	rules := a.Forms[a.form].Rules
	for {
		if q, ok := a.settle(); ok {
			return q, true
		}
		if !a.demand.canBeMet() || a.next == len(rules) {
			return question{}, false
		}
		a.demand = a.ask(rules[a.next])
		if !a.demand.again {
			a.next++
		}
	}
}

// settle goes through what the last rule demands, as long as that can be met and the answers are known.
func (a *asking) settle() (question, bool) {
	for a.demand.canBeMet() && len(a.demand.asked) > 0 {
		first := a.demand.asked[0]
		told, ok := a.known[first.question]
		if !ok {
			return first.question, true
		}
		a.demand.settle(told.takes)
		if told.takes {
			a.take(first.place, told.marks)
		}
	}
	a.marks = a.marks.joined(a.came)
	a.came = nil
	return question{}, false
}

// take marks the element at a place, or joins the marks that come of the value itself.
func (a *asking) take(place int, left marks) {
	if place == itself {
		a.marks = a.marks.joined(left)
	} else {
		a.came = a.came.put(place)
	}
}

// ask is what a rule demands. One that does not speak of values of this kind keeps.
func (a *asking) ask(r api.Rule) demand {
	w := a.ways[r.Kind]
	if w.of != all && w.of != a.value.Kind {
		return met(true)
	}
	return w.ask(a, r)
}

// answer is what came of the question, once nothing is left to ask.
func (a *asking) answer() answer {
	if a.Forms[a.form].Never || !a.demand.canBeMet() {
		return answer{}
	}
	return answer{takes: true, marks: a.marks}
}

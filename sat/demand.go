package sat

// itself stands instead of an element's place where it is no element that is asked.
const itself = -1

// asked is a question that a rule asks of an element at a place, which is marked if it is taken, or of the value itself, whose marks come then. (Keys are asked as if they were the value itself: a string leaves no marks.)
type asked struct {
	question
	place int
}

// demand is what a rule asks, and how many of that must be taken, at least and at most.
type demand struct {
	asked []asked
	least int
	most  int
	again bool // the rule is asked again when that is known
}

// met is the demand of a rule that asks nothing.
func met(keeps bool) demand {
	if keeps {
		return demand{}
	}
	return demand{least: 1}
}

// allOf demands that all are taken.
func allOf(row []asked) demand {
	return demand{asked: row, least: len(row), most: len(row)}
}

// canBeMet tells whether enough can be taken yet, and not too much was. Where nothing is left to ask it is met.
func (d demand) canBeMet() bool {
	return d.least <= len(d.asked) && d.most >= 0
}

// settle goes on behind the first that is asked.
func (d *demand) settle(takes bool) {
	d.asked = d.asked[1:]
	if takes {
		d.least--
		d.most--
	}
}

package nfa

import "caliper/api"

// part is the closure that compiles a tree.
func (l *list) part(x api.Rx) func() {
	switch x.Kind {
	case api.RxSet:
		return l.single(api.StSet, x.Ranges)
	case api.RxBegin:
		return l.single(api.StBegin, nil)
	case api.RxEnd:
		return l.single(api.StFinish, nil)
	case api.RxWord:
		return l.single(api.StWord, nil)
	case api.RxNoWord:
		return l.single(api.StNoWord, nil)
	case api.RxSeq:
		return l.row(x.Sub)
	case api.RxAlt:
		return l.choice(x.Sub)
	case api.RxRepeat:
		return l.repeat(x)
	}
	return func() {}
}

// single compiles a tree of one state.
func (l *list) single(kind api.StateKind, ranges []api.Range) func() {
	return func() { l.put(kind, ranges) }
}

// row compiles parts one behind the other.
func (l *list) row(parts []api.Rx) func() {
	return func() {
		for _, x := range parts {
			l.part(x)()
		}
	}
}

// choice compiles parts of which one is taken.
func (l *list) choice(parts []api.Rx) func() {
	last := len(parts) - 1
	return func() {
		var behind []func()
		for _, x := range parts[:last] {
			other := l.fork()
			l.part(x)()
			behind = append(behind, l.jump())
			other()
		}
		l.part(parts[last])()
		for _, here := range behind {
			here()
		}
	}
}

// repeat compiles a count. A part that comes no time is not compiled at all: it may have more states than any list.
func (l *list) repeat(x api.Rx) func() {
	return func() {
		part := l.often(l.part(x.Sub[0]))
		l.times(x.Min, part)
		if x.Max == noEnd {
			l.loop(part)
		} else {
			l.perhaps(x.Max-x.Min, part)
		}
	}
}

// often compiles a part the first time alone, and from then on puts its row of states again: so counts in counts take no more steps than they have states.
func (l *list) often(part func()) func() {
	var row []api.State
	at := -1
	return func() {
		if at >= 0 {
			l.again(row, at)
			return
		}
		at = l.next()
		part()
		row = l.from(at)
	}
}

// times puts a part so many times. A part without states is done at once.
func (l *list) times(n int, part func()) {
	for range n {
		at := l.next()
		part()
		if l.next() == at {
			return
		}
	}
}

// loop puts a part that may come any number of times.
func (l *list) loop(part func()) {
	first := l.next()
	behind := l.fork()
	part()
	l.jumpBack(first)
	behind()
}

// perhaps puts a part that may come, so many times.
func (l *list) perhaps(n int, part func()) {
	behind := make([]func(), n)
	for i := range n {
		behind[i] = l.fork()
		part()
	}
	for _, here := range behind {
		here()
	}
}

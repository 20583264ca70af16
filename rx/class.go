package rx

import "caliper/api"

// class reads what stands behind a `[`.
func (r *reader) class() api.Rx {
	turned := r.take("^")
	var all []api.Range
	for !r.take("]") {
		all = append(all, r.item()...)
	}
	if turned {
		all = Turn(all)
	}
	return setOf(all...)
}

// item reads a mark, or all from one to another.
func (r *reader) item() []api.Range {
	first := r.mark()
	if r.peek(0) != '-' || r.peek(1) == ']' {
		return first.ranges
	}
	r.need("-")
	return between(first, r.mark())
}

// between is the range from one mark to another.
func between(first mark, last mark) []api.Range {
	if first.named || last.named {
		panic(api.ErrRx)
	}
	from, to := first.ranges[0].From, last.ranges[0].To
	if from > to {
		panic(api.ErrRx)
	}
	return []api.Range{span(from, to)}
}

// mark reads a mark. Some escapes stand for something else in a class, or in a class alone.
func (r *reader) mark() mark {
	switch {
	case r.take(`\b`):
		return single(8)
	case r.take(`\-`):
		return single('-')
	case r.take(`\`):
		return r.escape()
	}
	return single(r.next())
}

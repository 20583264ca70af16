package rx

import (
	"strings"

	"caliper/api"
	"caliper/utf"
)

// syntax holds the code points that do not stand for themselves, but with a backslash ahead.
const syntax = `^$\.*+?()[]{}|`

// maxGroups is how many groups may stand in each other.
const maxGroups = 200

// noEnd is the Max of a count without an end.
const noEnd = -1

// none is what peek tells at the end; no code point is below 0.
const none = -1

// reader reads a pattern from its beginning on.
type reader struct {
	points []int
	at     int
	groups int // those that are not closed yet
}

// parsed reads a whole pattern. What is none comes up as a panic with its error, from wherever it was found; the assertion lets no other panic pass for one.
func parsed(s string) (x api.Rx, errno api.Errno) {
	defer func() {
		if wrong := recover(); wrong != nil {
			x, errno = api.Rx{}, wrong.(api.Errno)
		}
	}()
	r := reader{points: pointsOf(s)}
	x = r.pattern()
	if !r.ended() {
		panic(api.ErrRx)
	}
	return x, api.OK
}

// pointsOf are the code points of a text that may be a pattern.
func pointsOf(s string) []int {
	if len(s) > api.MaxPattern {
		panic(api.ErrRx)
	}
	points, errno := utf.Points([]byte(s))
	if errno != api.OK {
		panic(api.ErrRx)
	}
	return points
}

// ended tells whether nothing is left.
func (r *reader) ended() bool {
	return r.at == len(r.points)
}

// peek tells the code point that stands so many places further on.
func (r *reader) peek(further int) int {
	if r.at+further >= len(r.points) {
		return none
	}
	return r.points[r.at+further]
}

// next reads a code point, whichever it is.
func (r *reader) next() int {
	if r.ended() {
		panic(api.ErrRx)
	}
	r.at++
	return r.points[r.at-1]
}

// take passes over these bytes, if they stand here.
func (r *reader) take(bytes string) bool {
	for i := range len(bytes) {
		if r.peek(i) != int(bytes[i]) {
			return false
		}
	}
	r.at += len(bytes)
	return true
}

// need passes over these bytes, which must stand here.
func (r *reader) need(bytes string) {
	if !r.take(bytes) {
		panic(api.ErrRx)
	}
}

// pattern reads rows.
func (r *reader) pattern() api.Rx {
	rows := []api.Rx{r.row()}
	for r.take("|") {
		rows = append(rows, r.row())
	}
	return together(api.RxAlt, rows)
}

// row reads terms, as far as the row goes.
func (r *reader) row() api.Rx {
	var terms []api.Rx
	for !r.ended() && r.peek(0) != '|' && r.peek(0) != ')' {
		terms = append(terms, r.term())
	}
	return together(api.RxSeq, terms)
}

// together makes one tree of several: one is itself.
func together(kind api.RxKind, list []api.Rx) api.Rx {
	switch len(list) {
	case 0:
		return api.Rx{Kind: api.RxEmpty}
	case 1:
		return list[0]
	}
	return api.Rx{Kind: kind, Sub: list}
}

// term reads a term. What asks for a place has no count behind it.
func (r *reader) term() api.Rx {
	switch {
	case r.take("^"):
		return api.Rx{Kind: api.RxBegin}
	case r.take("$"):
		return api.Rx{Kind: api.RxEnd}
	case r.take(`\b`):
		return api.Rx{Kind: api.RxWord}
	case r.take(`\B`):
		return api.Rx{Kind: api.RxNoWord}
	}
	return r.counted(r.atom())
}

// counted reads the count behind an atom, if there is one.
func (r *reader) counted(atom api.Rx) api.Rx {
	repeat := api.Rx{Kind: api.RxRepeat, Sub: []api.Rx{atom}}
	switch {
	case r.take("*"):
		repeat.Min, repeat.Max = 0, noEnd
	case r.take("+"):
		repeat.Min, repeat.Max = 1, noEnd
	case r.take("?"):
		repeat.Min, repeat.Max = 0, 1
	case r.take("{"):
		repeat.Min, repeat.Max = r.counts()
	default:
		return atom
	}
	repeat.Lazy = r.take("?")
	return repeat
}

// counts reads what stands behind a `{`.
func (r *reader) counts() (int, int) {
	least := r.count()
	switch {
	case r.take("}"):
		return least, least
	case r.take(",}"):
		return least, noEnd
	}
	r.need(",")
	most := r.count()
	r.need("}")
	if most < least {
		panic(api.ErrRx)
	}
	return least, most
}

// count reads digits. It refuses as soon as they are too great, so no row of digits is too long for an int.
func (r *reader) count() int {
	n := digitOf(r.next())
	for isDigit(r.peek(0)) {
		n = n*10 + digitOf(r.next())
		if n > api.MaxRepeat {
			panic(api.ErrRx)
		}
	}
	return n
}

// atom reads an atom.
func (r *reader) atom() api.Rx {
	p := r.next()
	switch p {
	case '(':
		return r.group()
	case '[':
		return r.class()
	case '.':
		return setOf(inLines()...)
	case '\\':
		return setOf(r.escape().ranges...)
	}
	if strings.ContainsRune(syntax, rune(p)) {
		panic(api.ErrRx)
	}
	return setOf(only(p))
}

// group reads what stands behind a `(`.
func (r *reader) group() api.Rx {
	r.take("?:")
	r.groups++
	if r.groups > maxGroups {
		panic(api.ErrRx)
	}
	x := r.pattern()
	r.need(")")
	r.groups--
	return x
}

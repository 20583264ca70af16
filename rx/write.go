package rx

import (
	"strconv"

	"caliper/api"
)

// writer writes a tree that may be. It writes no more groups than are needed, so that what it writes is short enough for Parse, where it can be.
type writer struct {
	out   []byte
	named []namedSet
}

// put writes a text.
func (w *writer) put(text string) {
	w.out = append(w.out, text...)
}

// pattern writes what may stand anywhere.
func (w *writer) pattern(x api.Rx) {
	if x.Kind != api.RxAlt {
		w.row(x)
		return
	}
	for i, sub := range x.Sub {
		if i > 0 {
			w.put("|")
		}
		w.row(sub)
	}
}

// row writes what may stand beside a `|`.
func (w *writer) row(x api.Rx) {
	switch x.Kind {
	case api.RxEmpty:
	case api.RxSeq:
		for _, sub := range x.Sub {
			w.term(sub)
		}
	default:
		w.term(x)
	}
}

// term writes what may stand beside another term.
func (w *writer) term(x api.Rx) {
	switch x.Kind {
	case api.RxBegin:
		w.put("^")
	case api.RxEnd:
		w.put("$")
	case api.RxWord:
		w.put(`\b`)
	case api.RxNoWord:
		w.put(`\B`)
	case api.RxRepeat:
		w.atom(x.Sub[0])
		w.put(countText(x))
	default:
		w.atom(x)
	}
}

// atom writes what may have a count behind it.
func (w *writer) atom(x api.Rx) {
	if x.Kind == api.RxSet {
		w.put(w.setText(x.Ranges))
		return
	}
	w.put("(")
	w.pattern(x)
	w.put(")")
}

// countText is a repeat's count.
func countText(x api.Rx) string {
	if x.Lazy {
		return greedyText(x.Min, x.Max) + "?"
	}
	return greedyText(x.Min, x.Max)
}

// greedyText is the shortest form of a count.
func greedyText(least int, most int) string {
	switch {
	case least == 0 && most == noEnd:
		return "*"
	case least == 1 && most == noEnd:
		return "+"
	case least == 0 && most == 1:
		return "?"
	case most == noEnd:
		return "{" + strconv.Itoa(least) + ",}"
	case least == most:
		return "{" + strconv.Itoa(least) + "}"
	}
	return "{" + strconv.Itoa(least) + "," + strconv.Itoa(most) + "}"
}

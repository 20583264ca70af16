package rx

import (
	"slices"
	"strconv"
	"strings"

	"caliper/api"
	"caliper/utf"
)

// namedSet is a set that has a text of its own.
type namedSet struct {
	text   string
	ranges []api.Range
}

// namedSets are all of them.
func namedSets() []namedSet {
	named := []namedSet{{text: ".", ranges: inLines()}}
	for _, letter := range "dwsDWS" {
		ranges, _ := namedBy(int(letter))
		named = append(named, namedSet{text: `\` + string(letter), ranges: ranges})
	}
	return named
}

// setText is a set as an atom.
func (w *writer) setText(set []api.Range) string {
	if len(set) == 1 && set[0].From == set[0].To {
		return pointText(set[0].From, syntax)
	}
	for _, n := range w.named {
		if slices.Equal(n.ranges, set) {
			return n.text
		}
	}
	return classText(set)
}

// classText is a set as a class: as it is, or turned, as it is shorter. Of these two ways one may have a surrogate at an end of its ranges where the other has none, and Parse takes only that one then.
func classText(set []api.Range) string {
	turned := Turn(set)
	straight, other := "["+rangesText(set)+"]", "[^"+rangesText(turned)+"]"
	switch {
	case endsBySurrogate(turned):
		return straight
	case endsBySurrogate(set) || len(other) < len(straight):
		return other
	}
	return straight
}

// endsBySurrogate tells whether a range begins or ends with what is no code point.
func endsBySurrogate(set []api.Range) bool {
	return slices.ContainsFunc(set, func(r api.Range) bool { return !isPoint(r.From) || !isPoint(r.To) })
}

// rangesText are a class's items.
func rangesText(set []api.Range) string {
	var out strings.Builder
	for _, r := range set {
		out.WriteString(pointText(r.From, classSyntax))
		if r.To > r.From+1 {
			out.WriteString("-")
		}
		if r.To > r.From {
			out.WriteString(pointText(r.To, classSyntax))
		}
	}
	return out.String()
}

// classSyntax holds the code points that do not everywhere in a class stand for themselves, but with a backslash ahead.
const classSyntax = `\]^-`

// pointText is one number, where those of special have a backslash ahead. A 0 is not written as `\0`: a digit may come behind it.
func pointText(p int, special string) string {
	switch {
	case p >= 9 && p <= 13:
		return `\` + "tnvfr"[p-9:p-8]
	case p < 32 || p == 127:
		return `\x` + hexText(p>>4) + hexText(p&15)
	case !isPoint(p):
		return `\u{` + hexText(p) + "}"
	}
	text, _ := utf.Put(nil, p)
	if strings.Contains(special, string(text)) {
		return `\` + string(text)
	}
	return string(text)
}

// hexText is a number of 16.
func hexText(n int) string {
	return strconv.FormatInt(int64(n), 16)
}

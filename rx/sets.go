package rx

import "caliper/api"

// greatest is the greatest number of a set; the least is 0.
const greatest = 0x10ffff

// span is the range from the one to the other.
func span(from int, to int) api.Range {
	return api.Range{From: from, To: to}
}

// only is the range of one number.
func only(p int) api.Range {
	return span(p, p)
}

// within are the ranges as far as they hold numbers that a set may have.
func within(l []api.Range) []api.Range {
	cut := make([]api.Range, 0, len(l))
	for _, r := range l {
		r = span(max(r.From, 0), min(r.To, greatest))
		if r.From <= r.To {
			cut = append(cut, r)
		}
	}
	return cut
}

// setOf is the tree of a set.
func setOf(ranges ...api.Range) api.Rx {
	return api.Rx{Kind: api.RxSet, Ranges: Merge(ranges)}
}

// digits is what `\d` names.
func digits() []api.Range {
	return []api.Range{span('0', '9')}
}

// wordLetters is what `\w` names.
func wordLetters() []api.Range {
	return []api.Range{span('0', '9'), span('A', 'Z'), only('_'), span('a', 'z')}
}

// spaces is what `\s` names.
func spaces() []api.Range {
	return []api.Range{
		span(9, 13), only(32), only(0xa0), only(0x1680), span(0x2000, 0x200a),
		span(0x2028, 0x2029), only(0x202f), only(0x205f), only(0x3000), only(0xfeff),
	}
}

// inLines is what `.` names: all but the ends of lines.
func inLines() []api.Range {
	return Turn([]api.Range{only(10), only(13), span(0x2028, 0x2029)})
}

// namedBy is the set that a letter behind a backslash names, if it names one.
func namedBy(letter int) ([]api.Range, bool) {
	switch letter {
	case 'd':
		return digits(), true
	case 'w':
		return wordLetters(), true
	case 's':
		return spaces(), true
	case 'D':
		return Turn(digits()), true
	case 'W':
		return Turn(wordLetters()), true
	case 'S':
		return Turn(spaces()), true
	}
	return nil, false
}

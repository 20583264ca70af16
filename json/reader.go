package json

import (
	"strings"

	"caliper/api"
	"caliper/lex"
)

// reader reads a text from its beginning on. The limits are asked at the end, since a text that is malformed further on passes none.
type reader struct {
	b       []byte
	at      int
	limits  api.Limits
	opened  []holder
	deepest int
	passed  int // the limit that the first number of those passes that pass one
}

// text reads the whole text. Arrays and objects that are not closed yet stand in a list and not in calls in each other: a malformed text may open as many as it has bytes.
func (r *reader) text() api.Value {
	v := r.first(r.take(firstOfValue))
	for len(r.opened) > 0 {
		h := r.innermost()
		h.list = append(h.list, v)
		if isSign(r.take(","+h.closing()), ",") {
			v = r.first(r.nextOf(h))
		} else {
			v = r.close()
		}
	}
	r.end()
	return v
}

// first reads the first value that is whole from a token on: that token's own one, or what stands innermost in the arrays and objects that it opens.
func (r *reader) first(t api.Token) api.Value {
	for {
		switch {
		case isSign(t, "["):
			r.open(api.Array)
			t = r.take(firstOfValue + "]")
		case isSign(t, "{"):
			r.open(api.Object)
			t = r.take(firstOfString + "}")
			if !isSign(t, "}") {
				t = r.valueOf(t)
			}
		case isSign(t, "]"), isSign(t, "}"):
			return r.close()
		default:
			return r.simple(t)
		}
	}
}

// nextOf reads the first token of a further value of an array or an object.
func (r *reader) nextOf(h *holder) api.Token {
	if h.kind == api.Object {
		return r.valueOf(r.take(firstOfString))
	}
	return r.take(firstOfValue)
}

// valueOf keeps a key of the innermost object, and reads the first token of its value.
func (r *reader) valueOf(key api.Token) api.Token {
	if !r.innermost().keep(key.Text) {
		panic(malformed(key.To))
	}
	r.take(":")
	return r.take(firstOfValue)
}

// simple is the value of a token that is one by itself.
func (r *reader) simple(t api.Token) api.Value {
	switch t.Kind {
	case api.TokString:
		return api.Value{Kind: api.String, Text: t.Text}
	case api.TokNumber:
		return api.Value{Kind: api.Number, Num: r.number(t.Text)}
	}
	return api.Value{Kind: wordKind(t)}
}

// number is a number, as long as none has passed a limit: behind one that has, there will be no value.
func (r *reader) number(text string) api.Dec {
	if r.passed != 0 {
		return api.Dec{}
	}
	d, limit := limitOf(text, r.limits)
	r.passed = limit
	return d
}

// take reads the next token, if it begins with one of these bytes.
func (r *reader) take(firsts string) api.Token {
	r.blanks()
	if r.at == len(r.b) || strings.IndexByte(firsts, r.b[r.at]) < 0 {
		panic(malformed(r.at + 1))
	}
	t, badLength, errno := lex.Next(r.b, r.at)
	if errno != api.OK {
		panic(malformed(badLength))
	}
	r.at = t.To
	return t
}

// end asks that nothing stands behind the value.
func (r *reader) end() {
	r.blanks()
	if r.at < len(r.b) {
		panic(malformed(r.at + 1))
	}
}

// blanks passes over blanks.
func (r *reader) blanks() {
	for r.at < len(r.b) && lex.Blank(r.b[r.at]) {
		r.at++
	}
}

// keepLimits asks that a text that was read passes no limit.
func (r *reader) keepLimits() {
	if r.deepest > r.limits.Depth {
		panic(exceeded(api.LimDepth))
	}
	if r.passed != 0 {
		panic(exceeded(r.passed))
	}
}

package value

import (
	"strings"

	"caliper/api"
	"caliper/dec"
	"caliper/lex"
)

// write puts the canonical text of a value, which may be, behind what is there.
func write(out *strings.Builder, v api.Value) {
	switch v.Kind {
	case api.Null:
		out.WriteString("null")
	case api.False:
		out.WriteString("false")
	case api.True:
		out.WriteString("true")
	case api.Number:
		text, _ := dec.Text(v.Num)
		out.WriteString(text)
	case api.String:
		writeQuoted(out, v.Text)
	case api.Array:
		writeRow(out, "[]", len(v.List), func(i int) { write(out, v.List[i]) })
	case api.Object:
		writeObject(out, v)
	}
}

func writeObject(out *strings.Builder, v api.Value) {
	places := rising(v)
	writeRow(out, "{}", len(places), func(i int) {
		writeQuoted(out, v.Keys[places[i]])
		out.WriteByte(':')
		write(out, v.List[places[i]])
	})
}

// writeRow puts n elements between two signs, each by a function that is handed in.
func writeRow(out *strings.Builder, signs string, n int, element func(i int)) {
	out.WriteByte(signs[0])
	for i := range n {
		if i > 0 {
			out.WriteByte(',')
		}
		element(i)
	}
	out.WriteByte(signs[1])
}

func writeQuoted(out *strings.Builder, s string) {
	text, _ := lex.Quote(s)
	out.WriteString(text)
}

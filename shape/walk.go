package shape

import (
	"strconv"

	"caliper/api"
	"caliper/pointer"
)

// wrong is what is wrong with a schema: where it stands, and what it is. As an error it comes up through all levels as it is.
type wrong struct {
	at   string
	code api.Errno
}

func (w wrong) Error() string {
	return "shape: error " + strconv.Itoa(int(w.code)) + " at " + strconv.Quote(w.at)
}

// told makes an error of an error's number, at the end of a way of parts.
func told(code api.Errno, way []string) error {
	if code == api.OK {
		return nil
	}
	return wrong{at: pointer.Text(way...), code: code}
}

// walk goes through a schema. Its way are the parts that lead to what is asked: they become a pointer where something is wrong, as one written at every level would cost the square of the depth.
type walk struct {
	kinds table
	way   []string
}

// askSchema asks a value that should be a schema.
func (w *walk) askSchema(v api.Value) error {
	switch v.Kind {
	case api.True, api.False:
		return nil
	case api.Object:
		return w.askMembers(v)
	}
	return told(api.ErrShape, w.way)
}

// askMembers ends with the first that is wrong; then the way may stay as it is, as nothing more is asked.
func (w *walk) askMembers(v api.Value) error {
	back := len(w.way)
	for i := range members(v) {
		w.way = append(w.way, v.Keys[i])
		if err := w.askMember(w.kinds[v.Keys[i]], v.List[i]); err != nil {
			return err
		}
		w.way = w.way[:back]
	}
	return nil
}

// askMember asks a member's own form ahead of the schemas in it.
func (w *walk) askMember(k kind, v api.Value) error {
	if err := w.askForm(k, v); err != nil {
		return err
	}
	back := len(w.way)
	for _, in := range innerOf(k, v) {
		w.way = append(w.way, in.parts...)
		if err := w.askSchema(in.v); err != nil {
			return err
		}
		w.way = w.way[:back]
	}
	return nil
}

// askForm asks what a member's value must be, but for the schemas in it. A key that should be a pattern is told where it stands, all else at the value.
func (w *walk) askForm(k kind, v api.Value) error {
	if err := told(form(k, v), w.way); err != nil || k != schemasByPattern {
		return err
	}
	for _, key := range v.Keys {
		if code := asPattern(key); code != api.OK {
			return told(code, append(w.way, key))
		}
	}
	return nil
}

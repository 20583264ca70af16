package json

import "caliper/api"

// holder is an array or an object that is not closed yet.
type holder struct {
	kind api.Kind
	list []api.Value
	keys []string
	seen map[string]struct{}
}

// closing is the sign that closes it.
func (h *holder) closing() string {
	if h.kind == api.Object {
		return "}"
	}
	return "]"
}

// keep puts a key behind the others, unless it is one of them.
func (h *holder) keep(key string) bool {
	if _, twice := h.seen[key]; twice {
		return false
	}
	if h.seen == nil {
		h.seen = map[string]struct{}{}
	}
	h.seen[key] = struct{}{}
	h.keys = append(h.keys, key)
	return true
}

// open opens an array or an object in the innermost one.
func (r *reader) open(kind api.Kind) {
	r.opened = append(r.opened, holder{kind: kind})
	r.deepest = max(r.deepest, len(r.opened))
}

// innermost is the array or object that was opened last.
func (r *reader) innermost() *holder {
	return &r.opened[len(r.opened)-1]
}

// close closes the innermost array or object: it is a value now.
func (r *reader) close() api.Value {
	h := *r.innermost()
	r.opened = r.opened[:len(r.opened)-1]
	return api.Value{Kind: h.kind, List: h.list, Keys: h.keys}
}

package bundle

import (
	"caliper/api"
	"caliper/json"
	"caliper/pointer"
	"caliper/shape"
	"caliper/uri"
	"caliper/value"
)

// nameIn is an anchor's name in a resource.
type nameIn struct {
	resource int
	name     string
}

// reading is a bundle that is being read: its table, as far as it has come, and what was seen ahead.
type reading struct {
	api.Table
	documents map[string]struct{} // the documents' URIs
	ids       map[string]struct{} // the Ids' URIs
	names     map[nameIn]struct{} // the Anchors' names
}

// wrong is a fault at a place.
func wrong(code api.Errno, doc int, at string) api.Fault {
	return api.Fault{Code: code, At: api.Place{Doc: doc, Pointer: at}}
}

// parseAll are the documents' values, or the first fault of one.
func (r *reading) parseAll(docs []api.Doc) ([]api.Value, api.Fault) {
	var roots []api.Value
	for i := range docs {
		v, at, errno := r.parse(docs[i])
		if errno != api.OK {
			return nil, wrong(errno, i, at)
		}
		roots = append(roots, v)
	}
	return roots, api.Fault{}
}

// parse is a document's value, or what is wrong first, and where.
func (r *reading) parse(doc api.Doc) (api.Value, string, api.Errno) {
	if !uri.Absolute(doc.Uri) {
		return api.Value{}, "", api.ErrBundle
	}
	if _, twice := r.documents[doc.Uri]; twice {
		return api.Value{}, "", api.ErrTwice
	}
	r.documents[doc.Uri] = struct{}{}
	v, _, errno := json.Parse(doc.Data)
	if errno != api.OK {
		return api.Value{}, "", errno
	}
	at, errno := shape.Check(v)
	return v, at, errno
}

// gatherAll puts all schemas into the table, or tells the first that is too many.
func (r *reading) gatherAll(docs []api.Doc, roots []api.Value) api.Fault {
	for i, root := range roots {
		whole := api.Schema{At: api.Place{Doc: i}, V: root, Resource: len(r.Schemas), Base: docs[i].Uri}
		if fault := r.gather(whole); fault.Code != api.OK {
			return fault
		}
	}
	return api.Fault{}
}

// gather puts a schema into the table, with the base and the resource that it would have anyway, or with those that its $id makes; then all that is in it.
func (r *reading) gather(s api.Schema) api.Fault {
	if len(r.Schemas) == api.MaxSchemas {
		return wrong(api.ErrBundle, s.At.Doc, s.At.Pointer)
	}
	if id, ok := value.Get(s.V, "$id"); ok {
		s.Base, s.Resource = joined(s.Base, id.Text), len(r.Schemas)
	}
	r.Schemas = append(r.Schemas, s)
	subs := shape.Subs(s.V)
	for i, v := range innerOf(s.V, subs) {
		inner := api.Schema{At: api.Place{Doc: s.At.Doc, Pointer: s.At.Pointer + subs[i]}, V: v, Resource: s.Resource, Base: s.Base}
		if fault := r.gather(inner); fault.Code != api.OK {
			return fault
		}
	}
	return api.Fault{}
}

// joined is the base that a $id makes of one. Join refuses neither: the $id is a reference, as shape let it pass, and what was joined to a document's URI is absolute again.
func joined(base, id string) string {
	head, _ := uri.Bare(id)
	base, _ = uri.Join(base, head)
	return base
}

// innerOf are the values at a schema's Subs. As these come in the order of members and elements, each search goes on where the last one came to: from the begin each time, it would cost the square of an object's width.
func innerOf(v api.Value, subs []string) []api.Value {
	all := make([]api.Value, 0, len(subs))
	member, element := -1, 0
	for _, sub := range subs {
		parts, _ := pointer.Parse(sub)
		for member < 0 || v.Keys[member] != parts[0] {
			member, element = member+1, 0
		}
		in := v.List[member]
		if len(parts) > 1 {
			in = in.List[element]
			element++
		}
		all = append(all, in)
	}
	return all
}

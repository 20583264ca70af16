package bundle

import (
	"caliper/api"
	"caliper/value"
)

// enterAll enters all URIs and names, schema by schema, or tells the first that is there twice.
func (r *reading) enterAll(docs []api.Doc) api.Fault {
	for n := range r.Schemas {
		at := r.Schemas[n].At
		errno := r.enterIds(n, docs[at.Doc].Uri)
		if errno == api.OK {
			errno = r.enterAnchors(n)
		}
		if errno != api.OK {
			return wrong(errno, at.Doc, at.Pointer)
		}
	}
	return api.Fault{}
}

// enterIds enters a document's URI, if the schema is its value, and the base that a $id makes: a schema that is a resource of its own has one. A document's value has its URI already, so that a $id that comes to the same one names nothing twice.
func (r *reading) enterIds(n int, document string) api.Errno {
	s := &r.Schemas[n]
	if s.At.Pointer == "" {
		errno := r.enterId(n, document)
		if errno != api.OK || s.Base == document {
			return errno
		}
	}
	if s.Resource == n {
		return r.enterId(n, s.Base)
	}
	return api.OK
}

func (r *reading) enterId(n int, uri string) api.Errno {
	if _, twice := r.ids[uri]; twice {
		return api.ErrTwice
	}
	r.ids[uri] = struct{}{}
	r.Ids = append(r.Ids, api.Id{Uri: uri, Schema: n})
	return api.OK
}

// enterAnchors enters a schema's names.
func (r *reading) enterAnchors(n int) api.Errno {
	if errno := r.enterAnchor(n, "$anchor", false); errno != api.OK {
		return errno
	}
	return r.enterAnchor(n, "$dynamicAnchor", true)
}

// enterAnchor enters the name that a word holds, if the schema has it. Names of both kinds stand together: a fragment that is a name does not tell its kind.
func (r *reading) enterAnchor(n int, word string, dynamic bool) api.Errno {
	name, ok := value.Get(r.Schemas[n].V, word)
	if !ok {
		return api.OK
	}
	in := nameIn{resource: r.Schemas[n].Resource, name: name.Text}
	if _, twice := r.names[in]; twice {
		return api.ErrTwice
	}
	r.names[in] = struct{}{}
	r.Anchors = append(r.Anchors, api.Anchor{Resource: in.resource, Name: in.name, Schema: n, Dynamic: dynamic})
	return api.OK
}

package uri

import (
	"strings"

	"caliper/api"
)

// resolved is a reference on its way to what it comes to at a base: its parts are its own, or taken over.
type resolved struct {
	api.Uri
	base api.Uri
}

// settle takes the base's parts over from the left, up to the first part that the reference has itself.
func (r *resolved) settle() {
	if r.Scheme != "" {
		r.Path = Dots(r.Path)
		return
	}
	r.Scheme = r.base.Scheme
	if r.HasAuthority {
		r.Path = Dots(r.Path)
		return
	}
	r.Authority, r.HasAuthority = r.base.Authority, r.base.HasAuthority
	if r.Path != "" {
		r.Path = Dots(r.fullPath())
		return
	}
	r.Path = r.base.Path
	if !r.HasQuery {
		r.Query, r.HasQuery = r.base.Query, r.base.HasQuery
	}
}

// fullPath is a path that is not empty, behind what it has of the base's.
func (r *resolved) fullPath() string {
	switch {
	case r.Path[0] == '/':
		return r.Path
	case r.base.HasAuthority && r.base.Path == "":
		return "/" + r.Path
	}
	return r.base.Path[:strings.LastIndexByte(r.base.Path, '/')+1] + r.Path
}

// absolute parses a text that has a scheme and no fragment.
func absolute(s string) (api.Uri, bool) {
	u, errno := Parse(s)
	if errno != api.OK || u.Scheme == "" || u.HasFragment {
		return api.Uri{}, false
	}
	return u, true
}

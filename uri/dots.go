package uri

import (
	"bytes"
	"strings"
)

// step is what is done at the begin of a path: whether the last segment that was put out goes, what is put out, and what is left of the path.
type step struct {
	up   bool
	out  string
	rest string
}

// firstStep is the step at the begin of a path that is not empty.
// A dot segment gives its own `/` back as the rest's begin, so that rests are pieces of the path, and all steps together go over it once.
func firstStep(path string) step {
	switch {
	case path == "." || path == "..":
		return step{}
	case strings.HasPrefix(path, "./"):
		return step{rest: path[2:]}
	case strings.HasPrefix(path, "../"):
		return step{rest: path[3:]}
	case path == "/.":
		return step{rest: "/"}
	case strings.HasPrefix(path, "/./"):
		return step{rest: path[2:]}
	case path == "/..":
		return step{up: true, rest: "/"}
	case strings.HasPrefix(path, "/../"):
		return step{up: true, rest: path[3:]}
	}
	end := segmentEnd(path)
	return step{out: path[:end], rest: path[end:]}
}

// segmentEnd is where the first segment ends, with its `/` ahead.
func segmentEnd(path string) int {
	if end := strings.IndexByte(path[1:], '/'); end >= 0 {
		return end + 1
	}
	return len(path)
}

// withoutLast takes the last segment off, with the `/` ahead of it, if it has one.
func withoutLast(out []byte) []byte {
	return out[:max(bytes.LastIndexByte(out, '/'), 0)]
}

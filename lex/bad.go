package lex

import (
	"errors"
	"strconv"
)

// bad is the error of bytes that begin no token: how many of them it takes to tell.
type bad struct {
	length int
}

func (b bad) Error() string {
	return "no token begins with these bytes, of which there are " + strconv.Itoa(b.length)
}

// badAt is the error of a place that nothing good can be found at: bytes that cannot be and bytes that are not there any more are told alike, as the first one too many.
func badAt(at int) error {
	return bad{length: at + 1}
}

// badLength is the length that an error tells.
func badLength(err error) int {
	var found bad
	if errors.As(err, &found) {
		return found.length
	}
	return 0
}

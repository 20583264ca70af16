package json

import "caliper/api"

// The bytes that tokens begin with. A token that may not stand at a place is told by its first byte, since the rest of it may be bad too, and is not asked.
const (
	firstOfString = `"`
	firstOfValue  = firstOfString + `[{-0123456789ntf`
)

// is tells whether a token is this one, wherever it stands.
func is(t api.Token, kind api.TokenKind, text string) bool {
	return t == api.Token{Kind: kind, Text: text, From: t.From, To: t.From + len(text)}
}

// isSign tells whether a token is this sign.
func isSign(t api.Token, text string) bool {
	return is(t, api.TokSign, text)
}

// wordKind is the kind of value that a word is.
func wordKind(t api.Token) api.Kind {
	switch {
	case is(t, api.TokWord, "true"):
		return api.True
	case is(t, api.TokWord, "false"):
		return api.False
	}
	return api.Null
}

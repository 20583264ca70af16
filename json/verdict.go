package json

import "caliper/api"

// malformed is the verdict on bytes that are no text.
func malformed(badLength int) api.Verdict {
	return api.Verdict{Result: api.Malformed, At: badLength}
}

// exceeded is the verdict on a text that passes a limit.
func exceeded(limit int) api.Verdict {
	return api.Verdict{Result: api.Exceeded, At: limit}
}

// judged reads a text. What is wrong with it comes up as a panic with its verdict, from wherever it was found; the assertion lets no other panic pass for a verdict.
func judged(b []byte, l api.Limits) (v api.Value, verdict api.Verdict) {
	defer func() {
		if wrong := recover(); wrong != nil {
			v, verdict = api.Value{}, wrong.(api.Verdict)
		}
	}()
	if len(b) > api.MaxBytes {
		panic(exceeded(api.LimBytes))
	}
	r := reader{b: b, limits: l}
	v = r.text()
	r.keepLimits()
	return v, api.Verdict{Result: api.Valid}
}

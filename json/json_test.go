package json

import (
	"bytes"
	"encoding/json"
	"io"
	"math"
	"reflect"
	"slices"
	"strconv"
	"strings"
	"testing"
	"unicode/utf8"

	"caliper/api"
	"caliper/dec"
)

// cut is a text, short enough to be told.
func cut(s string) string {
	if len(s) > 80 {
		return strconv.Quote(s[:40]) + ".." + strconv.Itoa(len(s)) + " bytes.." + strconv.Quote(s[len(s)-20:])
	}
	return strconv.Quote(s)
}

// chance is a row of numbers that look as if they had no rule, the same ones each time.
type chance uint64

func (c *chance) below(n int) int {
	*c = *c*6364136223846793005 + 1442695040888963407
	return int(uint64(*c)>>33) % n
}

// same tells whether two values are the same in all fields; nil and empty lists are.
func same(a api.Value, b api.Value) bool {
	if a.Kind != b.Kind || a.Num != b.Num || a.Text != b.Text || len(a.List) != len(b.List) || len(a.Keys) != len(b.Keys) {
		return false
	}
	for i := range a.Keys {
		if a.Keys[i] != b.Keys[i] {
			return false
		}
	}
	for i := range a.List {
		if !same(a.List[i], b.List[i]) {
			return false
		}
	}
	return true
}

// The values that tests are made of.
func num(s string) api.Value {
	d, e := dec.Parse(s)
	if e != api.OK {
		panic(s)
	}
	return api.Value{Kind: api.Number, Num: d}
}

func text(s string) api.Value { return api.Value{Kind: api.String, Text: s} }

func list(vs ...api.Value) api.Value { return api.Value{Kind: api.Array, List: vs} }

func object(keys []string, vs ...api.Value) api.Value {
	return api.Value{Kind: api.Object, Keys: keys, List: vs}
}

var (
	null  = api.Value{Kind: api.Null}
	wrong = api.Value{Kind: api.False}
	right = api.Value{Kind: api.True}
)

// valid asks for a value, by both calls.
func valid(t *testing.T, s string, l api.Limits, want api.Value) {
	t.Helper()
	if got, v := Read([]byte(s), l); v != (api.Verdict{Result: api.Valid}) || !same(got, want) {
		t.Errorf("Read(%s, %v) = %v, %v; want %v", cut(s), l, got, v, want)
	}
	if l == (api.Limits{}) {
		if got, n, e := Parse([]byte(s)); n != 0 || e != api.OK || !same(got, want) {
			t.Errorf("Parse(%s) = %v, %d, %d; want %v", cut(s), got, n, e, want)
		}
	}
}

// none tells whether a value is zero.
func none(v api.Value) bool { return reflect.DeepEqual(v, api.Value{}) }

// refuses asks for a verdict without a value, by both calls.
func refuses(t *testing.T, s string, l api.Limits, want api.Verdict) {
	t.Helper()
	if got, v := Read([]byte(s), l); v != want || !none(got) {
		t.Errorf("Read(%s, %v) = %v, %v; want %v", cut(s), l, got.Kind, v, want)
	}
	if l != (api.Limits{}) {
		return
	}
	errno, at := api.ErrLarge, 0
	switch want {
	case api.Verdict{Result: api.Malformed, At: want.At}:
		errno, at = api.ErrJSON, want.At
	case api.Verdict{Result: api.Exceeded, At: api.LimBytes}:
		errno = api.ErrLong
	}
	if got, n, e := Parse([]byte(s)); n != at || e != errno || !none(got) {
		t.Errorf("Parse(%s) = %v, %d, %d; want %d, %d", cut(s), got.Kind, n, e, at, errno)
	}
}

func bad(t *testing.T, s string, n int) {
	t.Helper()
	refuses(t, s, api.Limits{}, api.Verdict{Result: api.Malformed, At: n})
}

func over(t *testing.T, s string, l api.Limits, limit int) {
	t.Helper()
	refuses(t, s, l, api.Verdict{Result: api.Exceeded, At: limit})
}

// texts are some, and what they are.
func texts() map[string]api.Value {
	return map[string]api.Value{
		"null": null, "true": right, "false": wrong, "0": num("0"), "-0": num("0"), "-12.50e+3": num("-125e2"), "1E-5": num("1e-5"), "0.0e99999999999": num("0"),
		`""`: text(""), `"a"`: text("a"), `"\u00e9\n\ud83d\ude00"`: text("é\n😀"), `"null"`: text("null"), `"[1,2]"`: text("[1,2]"),
		"[]": list(), "[1]": list(num("1")), "[1,2,3]": list(num("1"), num("2"), num("3")), "[[]]": list(list()), "[[],[]]": list(list(), list()), "[null,true,false]": list(null, right, wrong),
		"{}": object(nil), `{"a":1}`: object([]string{"a"}, num("1")), `{"b":1,"a":2}`: object([]string{"b", "a"}, num("1"), num("2")), `{"":{}}`: object([]string{""}, object(nil)),
		`{"a":"a","b":null,"A":[]}`: object([]string{"a", "b", "A"}, text("a"), null, list()), `{"\u0061":"b"}`: object([]string{"a"}, text("b")),
		`{"a":{"a":{"a":"a"}}}`: object([]string{"a"}, object([]string{"a"}, object([]string{"a"}, text("a")))), `[{"a":1},{"a":2}]`: list(object([]string{"a"}, num("1")), object([]string{"a"}, num("2"))),
		`{"a":[{"a":1},{"b":[]}],"b":{"a":1}}`: object([]string{"a", "b"}, list(object([]string{"a"}, num("1")), object([]string{"b"}, list())), object([]string{"a"}, num("1"))),
		`[[[1],2],[3,[4]],{"x":[{}]}]`:         list(list(list(num("1")), num("2")), list(num("3"), list(num("4"))), object([]string{"x"}, list(object(nil)))),
		`{"a":1,"aa":2,"é":3,"e\u0301":4}`:     object([]string{"a", "aa", "é", "e\u0301"}, num("1"), num("2"), num("3"), num("4")),
		`[[],{},"",0,[0],{"":0}]`:              list(list(), object(nil), text(""), num("0"), list(num("0")), object([]string{""}, num("0"))),
	}
}

// P5.1: every kind of value, in each other, keys in the order of the text.
func TestValues(t *testing.T) {
	for s, want := range texts() {
		valid(t, s, api.Limits{}, want)
	}
}

// tokensOf cuts a text of texts() into its tokens, without this package's means.
func tokensOf(t *testing.T, s string) []string {
	var out []string
	for len(s) > 0 {
		n := 1
		switch {
		case s[0] == '"':
			for s[n] != '"' {
				if s[n] == '\\' {
					n++
				}
				n++
			}
			n++
		case !strings.ContainsAny(s[:1], "[]{},:"):
			for n < len(s) && !strings.ContainsAny(s[n:n+1], "[]{},:") {
				n++
			}
		}
		out = append(out, s[:n])
		s = s[n:]
	}
	return out
}

// P5.5: blanks round and between tokens change nothing.
func TestBlanks(t *testing.T) {
	c := chance(5)
	for s, want := range texts() {
		tokens := tokensOf(t, s)
		for _, blank := range []string{" ", "\t", "\n", "\r", "\r\n \t"} {
			valid(t, blank+strings.Join(tokens, blank)+blank, api.Limits{}, want)
			valid(t, blank+s, api.Limits{}, want)
			valid(t, s+blank, api.Limits{}, want)
		}
		for range 20 {
			var b strings.Builder
			for i := range len(tokens) + 1 {
				for range c.below(3) {
					b.WriteByte("\t\n\r "[c.below(4)])
				}
				if i < len(tokens) {
					b.WriteString(tokens[i])
				}
			}
			valid(t, b.String(), api.Limits{}, want)
		}
	}
	for _, other := range []string{"\x00", "\x0b", "\x0c", "\u00a0", "\ufeff", "\x85", "/**/", "#"} {
		bad(t, other+"1", 1)
		bad(t, "1"+other, 2)
		bad(t, "["+other+"1]", 2)
		bad(t, "[1"+other+"]", 3)
		bad(t, `{`+other+`"a":1}`, 2)
		bad(t, `{"a"`+other+`:1}`, 5)
	}
}

// P5.2: which limits hold.
func TestBound(t *testing.T) {
	greatest := api.Limits{Depth: 10000, Digits: 65536, Exp: 1000000, States: 65536, Routines: 16384}
	if got := Bound(api.Limits{}); got != greatest {
		t.Errorf("Bound of none = %v", got)
	}
	if got := Bound(greatest); got != greatest {
		t.Errorf("Bound of the greatest = %v", got)
	}
	fields := func(l *api.Limits) []*int { return []*int{&l.Depth, &l.Digits, &l.Exp, &l.States, &l.Routines} }
	for i, most := range fields(&greatest) {
		for _, n := range []int{math.MinInt, -*most - 1, -*most, -1, 0, 1, 2, 77, *most - 1, *most, *most + 1, *most * 2, 1000001, math.MaxInt32, 1 << 32, 1<<32 + 1, math.MaxInt} {
			asked, want := api.Limits{}, greatest
			*fields(&asked)[i] = n
			if n > 0 && n <= *most {
				*fields(&want)[i] = n
			}
			if got := Bound(asked); got != want {
				t.Errorf("Bound(%v) = %v; want %v", asked, got, want)
			}
		}
	}
	some := api.Limits{Depth: 1, Digits: 2, Exp: 3, States: 4, Routines: 5}
	if got := Bound(some); got != some {
		t.Errorf("Bound(%v) = %v", some, got)
	}
}

// P5.3: texts that end too early: one more than there are bytes.
func TestEndsTooEarly(t *testing.T) {
	for _, s := range []string{
		"", " ", "\n\t\r ", "[", "[1", "[1,", "[1, ", "[1 ,\n", "[[]", "[[],", "{", "{ ", `{"`, `{"a`, `{"a"`, `{"a" `, `{"a":`, `{"a": `, `{"a":1`, `{"a":1,`, `{"a":1, `, `{"a":1,"`, `{"a":1,"a`, `{"a":1,"b"`, `{"a":1,"b":`,
		`{"a":[`, `{"a":[{`, `[{"a":1}`, "n", "nul", "[fals", "-", "[-", "1.", "1e", "1e+", "[1.", `{"a":1e-`, `"`, `"a`, `"\`, `"\u00`, `"\ud800`, `"\ud800\udc0`, "\"\xe2\x82", `["\`, "[\"\xf0\x9f\x98",
		strings.Repeat("[", 100000), strings.Repeat("[[],", 20000), strings.Repeat(`{"a":`, 50000), strings.Repeat(`{"a":[`, 50000) + `"`,
	} {
		bad(t, s, len(s)+1)
	}
}

// P5.3: tokens that may not stand where they stand: one more than where they begin, whole or not.
func TestMayNotStand(t *testing.T) {
	places := []struct {
		ahead   string
		allowed string // first bytes
	}{
		{"", `[{"-0ntf`}, {"[", `]["{-0ntf`}, {"[1,", `["{-0ntf`}, {"[[1],", `["{-0ntf`}, {"{", `"}`}, {`{"a":1,`, `"`}, {`{"a":`, `["{-0ntf`}, {`{"a":1,"b":`, `["{-0ntf`},
		{"[null", ",]"}, {"[1 ", ",]"}, {"[[]", ",]"}, {"[{}", ",]"}, {"[1,true", ",]"}, {`{"a"`, ":"}, {`{"a":1,"b"`, ":"}, {`{"a":null`, ",}"}, {`{"a":[]`, ",}"}, {`{"a":{}`, ",}"}, {`{"a":""`, ",}"}, {`[{"a":1}`, ",]"}, {`{"a":[1]`, ",}"},
		{"null", ""}, {"1 ", ""}, {"[]", ""}, {"{}", ""}, {`""`, ""}, {"[[1]]", ""}, {`{"a":1}`, ""},
	}
	behind := []string{
		"[", "]", "{", "}", ",", ":", `"x"`, "12", "-1", "0", "null", "true", "false", // whole tokens
		`"x`, `"`, "\"\xff\"", `"\q"`, `"\udc00"`, "-", "-x", "--", "0.", "0.x", "0e", "0e+x", "n", "nux", "nul", "t", "trux", "f", "falsy", // and others
	}
	for _, p := range places {
		for _, s := range behind {
			if strings.IndexByte(p.allowed, s[0]) >= 0 || s == "12" && strings.IndexByte(p.allowed, '0') >= 0 {
				continue
			}
			for _, blank := range []string{"", " ", "\r\n"} {
				for _, rest := range []string{"", " ", "]", "}", "1", `"a":1}`} {
					bad(t, p.ahead+blank+s+rest, len(p.ahead)+len(blank)+1)
				}
			}
		}
	}
	for c := range 256 { // bytes that no token begins with
		if !strings.Contains("[]{},:\"-0123456789ntf \t\r\n", string([]byte{byte(c)})) {
			for _, p := range places {
				bad(t, p.ahead+string([]byte{byte(c)})+"1", len(p.ahead)+1)
			}
		}
	}
}

// P5.3: where a token may stand, but is none, layer 4's bad length.
func TestBadTokens(t *testing.T) {
	for s, n := range map[string]int{
		"nux": 3, "nul": 4, "nulx": 4, "trUe": 3, "falsy": 5, "-x": 2, "-": 2, "1.": 3, "1.x": 3, "1ex": 3, "1e+x": 4, `"\q"`: 3, `"\udc00"`: 5, `"\ud800x`: 8, "\"\xff\"": 2, "\"\x1f\"": 2, "\"a\nb\"": 3, "\"\xe2\x82\"": 4, "\"\xed\xa0\x80\"": 3,
	} {
		for _, ahead := range []string{"", " ", "[", "[ ", "[1,", `{"a":`, `{"a":1,"b":`, "[[[]],"} {
			bad(t, ahead+s, len(ahead)+n)
		}
		if s[0] == '"' {
			for _, ahead := range []string{"{", "{ ", `{"a":1,`, `{"a":{`, `[{`} {
				bad(t, ahead+s, len(ahead)+n)
			}
		}
	}
	for s, n := range map[string]int{"01": 2, "-01": 3, "00": 2, "1.5.": 4, "1.5.5": 4, "1e5e": 4, "1e5.5": 4, "+1": 1, ".5": 1, "1-": 2, "nulll": 5, "nullnull": 5, "truefalse": 5, `"a"b`: 4, `""""`: 3, "1,": 2, "1,2": 2, "[]]": 3, "{}}": 3, "[],": 3, "1 2": 3, "[1]x": 4, "[01]": 3, "[-]": 3, "[1.]": 4} {
		bad(t, s, n)
	}
}

// P5.3: a key that is there twice: its end.
func TestKeysTwice(t *testing.T) {
	for s, n := range map[string]int{
		`{"a":1,"a"`: 10, `{"a":1,"a":2}`: 10, `{"a":1,"a":2`: 10, `{"a":1,"a"x`: 10, `{"a":1, "a" :2}`: 11, `{"":1,"":2}`: 8, `{"a":1,"\u0061":1}`: 15, `{"\u0061":1,"a"`: 15, `{"a":1,"b":2,"a":1}`: 16, `{"a":1,"b":2,"b"`: 16, `{"a":1,"b":2,"c":3,"b"`: 22,
		`[{"a":1,"a"`: 11, `{"x":{"a":1,"a":1}}`: 15, `{"x":{"x":1},"x"`: 16, `{"x":[{"x":1}],"x"`: 18, `{"é":1,"\u00e9"`: 16, `{"😀":1,"\ud83d\ude00"`: 24, `{"\/":1,"/"`: 11, `{"a":nul`: 9, `{"a":1,"a"\q`: 10, `{"a":1,"a" "a"`: 10,
		`{"a":{},"a"`: 11, `{"a":{"a":1,"b":2},"b":1,"a"`: 28,
	} {
		bad(t, s, n)
	}
	valid(t, `{"a":1,"A":1,"a ":1," a":1,"a\u0000":1}`, api.Limits{}, object([]string{"a", "A", "a ", " a", "a\x00"}, num("1"), num("1"), num("1"), num("1"), num("1")))
	valid(t, `[{"a":1},{"a":1}]`, api.Limits{}, list(object([]string{"a"}, num("1")), object([]string{"a"}, num("1"))))
	valid(t, `{"a":{"a":{}},"b":{"a":[]}}`, api.Limits{}, object([]string{"a", "b"}, object([]string{"a"}, object(nil)), object([]string{"a"}, list())))
	var many strings.Builder // as many keys as there is room for, the last one again
	many.WriteString(`{"k0":0`)
	for i := 1; i < 70000; i++ {
		many.WriteString(`,"k` + strconv.Itoa(i) + `":0`)
	}
	if v, n, e := Parse([]byte(many.String() + "}")); n != 0 || e != api.OK || len(v.Keys) != 70000 || len(v.List) != 70000 || v.Keys[69999] != "k69999" || v.Keys[0] != "k0" {
		t.Errorf("many keys: %d, %d, %d", n, e, len(v.Keys))
	}
	bad(t, many.String()+`,"k0":0}`, many.Len()+5)
	bad(t, many.String()+`,"k69999"`, many.Len()+9)
}

// P5.3: the limit of bytes, ahead of all else.
func TestBytes(t *testing.T) {
	full := "[" + strings.Repeat(" ", api.MaxBytes-2) + "]"
	valid(t, full, api.Limits{}, list())
	over(t, full+" ", api.Limits{}, api.LimBytes)
	over(t, " "+full, api.Limits{Depth: 1}, api.LimBytes)
	bad(t, full[:api.MaxBytes-1], api.MaxBytes)
	bad(t, full[:api.MaxBytes-1]+" ", api.MaxBytes+1)
	bad(t, full[:api.MaxBytes-1]+"x", api.MaxBytes)
	bad(t, full[:api.MaxBytes-1]+`"`, api.MaxBytes+1)
	for _, s := range []string{"x", "[", `{"a":1,"a"`, "\xff", strings.Repeat("[", 10001)} { // also of what is malformed, or passes another limit
		s += strings.Repeat(" ", api.MaxBytes+1-len(s))
		over(t, s, api.Limits{}, api.LimBytes)
		over(t, s, api.Limits{Depth: 1, Digits: 1, Exp: 1}, api.LimBytes)
	}
	over(t, strings.Repeat("9", api.MaxBytes+1), api.Limits{}, api.LimBytes)
	over(t, strings.Repeat("9", api.MaxBytes), api.Limits{}, api.LimDigits)
	long := strings.Repeat("a", api.MaxBytes-2)
	valid(t, `"`+long+`"`, api.Limits{}, text(long))
	bad(t, `"`+long+`a`, api.MaxBytes+1)
}

// nested is a text of arrays, or of arrays and objects, so many in each other.
func nested(depth int, mixed bool, inside string) string {
	var ahead, behind []string
	for i := range depth {
		if mixed && i%2 == 1 {
			ahead, behind = append(ahead, `{"a":`), append(behind, "}")
		} else {
			ahead, behind = append(ahead, "["), append(behind, "]")
		}
	}
	for i := range depth / 2 {
		behind[i], behind[depth-1-i] = behind[depth-1-i], behind[i]
	}
	return strings.Join(ahead, "") + inside + strings.Join(behind, "")
}

// P5.3: the limit of depth, at it and one beyond it.
func TestDepth(t *testing.T) {
	for _, mixed := range []bool{false, true} {
		for _, inside := range []string{"1", `"a"`, "null,null"} {
			if mixed && inside == "null,null" {
				inside = "null"
			}
			for _, limit := range []int{1, 2, 3, 100, 9999, 10000} {
				l := api.Limits{Depth: limit}
				if _, v := Read([]byte(nested(limit, mixed, inside)), l); v != (api.Verdict{Result: api.Valid}) {
					t.Errorf("depth %d of %d: %v", limit, limit, v)
				}
				over(t, nested(limit+1, mixed, inside), l, api.LimDepth)
			}
			for _, limit := range []int{0, -1, 10001, math.MinInt, math.MaxInt} {
				l := api.Limits{Depth: limit}
				if _, v := Read([]byte(nested(10000, mixed, inside)), l); v != (api.Verdict{Result: api.Valid}) {
					t.Errorf("depth 10000 of %d: %v", limit, v)
				}
				over(t, nested(10001, mixed, inside), l, api.LimDepth)
			}
		}
	}
	one := api.Limits{Depth: 1}
	valid(t, "1", one, num("1"))
	valid(t, "[]", one, list())
	valid(t, "{}", one, object(nil))
	valid(t, `{"a":1}`, one, object([]string{"a"}, num("1")))
	over(t, "[[]]", one, api.LimDepth)
	over(t, "[[1]]", one, api.LimDepth)
	over(t, "[{}]", one, api.LimDepth)
	over(t, `{"a":[]}`, one, api.LimDepth)
	over(t, `{"a":{}}`, one, api.LimDepth)
	two := api.Limits{Depth: 2}
	valid(t, "[[],[],{}]", two, list(list(), list(), object(nil))) // beside each other is not in each other
	over(t, "[[],[[]],[]]", two, api.LimDepth)
	over(t, "[1,[[1],2],3]", two, api.LimDepth)
	over(t, strings.Repeat("[", api.MaxBytes/2)+strings.Repeat("]", api.MaxBytes/2), api.Limits{}, api.LimDepth)
	bad(t, strings.Repeat("[", api.MaxBytes), api.MaxBytes+1)
	bad(t, strings.Repeat("[", api.MaxBytes/2)+strings.Repeat("]", api.MaxBytes/2-1), api.MaxBytes)
	bad(t, strings.Repeat("[", api.MaxBytes/2-1)+strings.Repeat("]", api.MaxBytes/2), api.MaxBytes-1)
	bad(t, strings.Repeat(`{"":`, api.MaxBytes/4), api.MaxBytes+1)
}

// P5.3: the limit of digits: all digits ahead of the `e`.
func TestDigits(t *testing.T) {
	three := api.Limits{Digits: 3}
	for _, s := range []string{"1", "123", "-123", "1.23", "-1.23", "0.12", "0.00", "-0.00", "100", "1.00e1234", "123e99999", "123E-99999", "0e123456789", "0.12E+00001234"} {
		valid(t, s, three, num(s))
	}
	for _, s := range []string{"1234", "-1234", "1.234", "123.4", "0.123", "0.000", "-0.000", "1000", "0.100", "1000e1", "1.000E5", "0.000e1", "1234e-2000000"} {
		over(t, s, three, api.LimDigits)
	}
	valid(t, "7e5", api.Limits{Digits: 1}, num("7e5"))
	over(t, "0.5", api.Limits{Digits: 1}, api.LimDigits)
	full := strings.Repeat("9", api.MaxDigits)
	for _, limit := range []int{0, -1, 65536, 65537, math.MinInt, math.MaxInt} {
		l := api.Limits{Digits: limit}
		valid(t, full, l, num(full))
		valid(t, "-0."+full[1:]+"e7", l, num("-0."+full[1:]+"e7"))
		over(t, full+"9", l, api.LimDigits)
		over(t, "0."+full, l, api.LimDigits)
		over(t, "0."+strings.Repeat("0", api.MaxDigits), l, api.LimDigits)
	}
	over(t, full, api.Limits{Digits: 65535}, api.LimDigits)
	valid(t, "1e"+strings.Repeat("0", 100000)+"5", api.Limits{Digits: 1}, num("1e5"))
	valid(t, `["12345","e1234"]`, three, list(text("12345"), text("e1234"))) // strings are no numbers
}

// P5.3: the limit of the exponent, as it is when the number is read.
func TestExponents(t *testing.T) {
	two := api.Limits{Exp: 2}
	for _, s := range []string{"1", "100", "1e2", "1e-2", "0.01", "-0.01", "12300", "1000e-1", "1000e-5", "0.001e5", "0.001e1", "-1.5", "1.50e1", "1e02", "0e3", "0e-3", "0e99999999999999999999", "-0.000e-99999999999999999999", "0", "0.0000"} {
		valid(t, s, two, num(s))
	}
	for _, s := range []string{"1000", "1e3", "1e-3", "0.001", "-0.001", "-1000", "123000", "1000e0", "0.001e6", "100e1", "1.5e4", "0.01e-1", "1e+3", "1E003", "1e2000000", "1e-99999999999999999999", "1e99999999999999999999"} {
		over(t, s, two, api.LimExp)
	}
	for _, limit := range []int{0, -1, 1000000, 1000001, math.MinInt, math.MaxInt} {
		l := api.Limits{Exp: limit}
		for _, s := range []string{"1e1000000", "1e-1000000", "0.1e1000001", "10e999999", "10e-1000001", "0e1000001", "0e-1000001", "0.00e2000000", "-0e" + strings.Repeat("9", 1000)} {
			valid(t, s, l, num(s))
		}
		for _, s := range []string{"1e1000001", "1e-1000001", "0.1e-1000000", "10e1000000", "0.1e1000002", "1e2000000", "-1e2000000", "1e" + strings.Repeat("9", 1000), "1e-" + strings.Repeat("9", 1000), "1e18446744073709551616", "1e-18446744073709551616", "1e4294967296"} {
			over(t, s, l, api.LimExp)
		}
	}
	over(t, "1e1000000", api.Limits{Exp: 999999}, api.LimExp)
	over(t, "1e-1000000", api.Limits{Exp: 999999}, api.LimExp)
	valid(t, "1e999999", api.Limits{Exp: 999999}, num("1e999999"))
}

// P5.3: which of several comes first.
func TestWhichFirst(t *testing.T) {
	l := api.Limits{Depth: 1, Digits: 2, Exp: 3}
	for s, limit := range map[string]int{
		"[[123]]": api.LimDepth, "[123,[]]": api.LimDepth, "[1e9,[]]": api.LimDepth, "[[1e9,123]]": api.LimDepth, "[1e9,123,[[[]]]]": api.LimDepth,
		"[123,1e9]": api.LimDigits, "[1e9,123]": api.LimExp, "[1,2e9,123]": api.LimExp, "[0e9,123,1e9]": api.LimDigits, "123e9": api.LimDigits, "[123e9,1e9]": api.LimDigits, "[1e9,123e9]": api.LimExp, "1000": api.LimDigits, "0.0001": api.LimDigits, `{"a":12e4,"b":123}`: api.LimExp, `{"a":120,"b":12e4}`: api.LimDigits,
		`["123",1e9,"1e9"]`: api.LimExp, "[99e3,1e-4]": api.LimExp, "[99e3,0e9,123]": api.LimDigits,
	} {
		over(t, s, l, limit)
	}
	for s, n := range map[string]int{
		"[[123]": 7, "[[123]]]": 8, "[123,[1e9],": 12, "[1e9,123 x": 10, "123 4": 5, "[[[[[": 6, `{"a":[[]],"b":1e9,"a":1}`: 21, "1e9999999 1": 11, "[[1e9,123],nux": 14, `[[1],{"a":1,"a"`: 15,
	} {
		refuses(t, s, l, api.Verdict{Result: api.Malformed, At: n})
	}
	bad(t, nested(10001, false, "1")+"]", 20004)
	bad(t, "["+strings.Repeat("9", 65537)+",1e9999999", 65537+12)
	over(t, "["+strings.Repeat("9", 65537)+",1e9999999]", api.Limits{}, api.LimDigits)
	over(t, "[1e9999999,"+strings.Repeat("9", 65537)+"]", api.Limits{}, api.LimExp)
	over(t, "["+nested(10000, true, "1e9999999")+","+strings.Repeat("9", 65537)+"]", api.Limits{}, api.LimDepth)
	// Of two faults the one ahead: its beginning is the shorter one.
	bad(t, `{"a":1,"a":nux`, 10)
	bad(t, `{"a":nux,"a"`, 8)
	bad(t, "[1 2 x", 4)
	bad(t, "[x,]", 2)
}

// P5.4: what Parse answers of each verdict.
func TestParse(t *testing.T) {
	for _, c := range []struct {
		s     string
		n     int
		errno api.Errno
	}{
		{"[1, {}]", 0, api.OK}, {"", 1, api.ErrJSON}, {"[1,", 4, api.ErrJSON}, {`{"a":1,"a"`, 10, api.ErrJSON}, {"[]]", 3, api.ErrJSON}, {strings.Repeat(" ", api.MaxBytes), api.MaxBytes + 1, api.ErrJSON},
		{strings.Repeat(" ", api.MaxBytes+1), 0, api.ErrLong}, {nested(10000, true, "1"), 0, api.OK}, {nested(10001, true, "1"), 0, api.ErrLarge}, {strings.Repeat("1", 65537), 0, api.ErrLarge}, {"1e1000001", 0, api.ErrLarge}, {"1e2000000", 0, api.ErrLarge}, {"[1e1000000,0e1000001]", 0, api.OK},
	} {
		v, n, e := Parse([]byte(c.s))
		if n != c.n || e != c.errno || e != api.OK && !none(v) {
			t.Errorf("Parse(%s) = %v, %d, %d; want %d, %d", cut(c.s), v.Kind, n, e, c.n, c.errno)
		}
	}
	if v, n, e := Parse(nil); n != 1 || e != api.ErrJSON || !none(v) {
		t.Errorf("Parse(nil) = %v, %d, %d", v, n, e)
	}
}

// large stands for a number that passes a limit.
const large api.Kind = -1

// hasLarge tells whether such a number is in a value.
func hasLarge(v api.Value) bool {
	return v.Kind == large || slices.ContainsFunc(v.List, hasLarge)
}

// ofDecoder is the value that another reader makes of a text, if it is one with no key twice.
func ofDecoder(d *json.Decoder) (api.Value, bool) {
	token, err := d.Token()
	if err != nil {
		return api.Value{}, false
	}
	switch x := token.(type) {
	case nil:
		return null, true
	case bool:
		if x {
			return right, true
		}
		return wrong, true
	case string:
		return text(x), true
	case json.Number:
		d, e := dec.Parse(string(x))
		if e != api.OK {
			return api.Value{Kind: large}, true
		}
		return api.Value{Kind: api.Number, Num: d}, true
	}
	v := api.Value{Kind: map[json.Delim]api.Kind{'[': api.Array, '{': api.Object}[token.(json.Delim)]}
	for d.More() {
		if v.Kind == api.Object {
			key, err := d.Token()
			if err != nil {
				return api.Value{}, false
			}
			for _, k := range v.Keys {
				if k == key.(string) {
					return api.Value{}, false
				}
			}
			v.Keys = append(v.Keys, key.(string))
		}
		sub, ok := ofDecoder(d)
		if !ok {
			return api.Value{}, false
		}
		v.List = append(v.List, sub)
	}
	_, err = d.Token()
	return v, err == nil
}

// others is what another reader makes of a text (of valid UTF-8, without escapes of surrogates, which it takes for granted).
func others(s string) (api.Value, bool) {
	if !json.Valid([]byte(s)) || !utf8.ValidString(s) {
		return api.Value{}, false
	}
	d := json.NewDecoder(strings.NewReader(s))
	d.UseNumber()
	v, ok := ofDecoder(d)
	if !ok {
		return api.Value{}, false
	}
	if _, err := d.Token(); err != io.EOF {
		return api.Value{}, false
	}
	return v, true
}

// closers are what closes all that a beginning has opened, outside of strings.
func closers(s string) string {
	var out []byte
	within := false
	for i := 0; i < len(s); i++ {
		switch c := s[i]; {
		case within && c == '\\':
			i++
		case c == '"':
			within = !within
		case within:
		case c == '[':
			out = append(out, ']')
		case c == '{':
			out = append(out, '}')
		case c == ']' || c == '}':
			if len(out) > 0 {
				out = out[:len(out)-1]
			}
		}
	}
	for i := range len(out) / 2 {
		out[i], out[len(out)-1-i] = out[len(out)-1-i], out[i]
	}
	return string(out)
}

// begins tells whether some text begins so, by trying ways to go on.
func begins(s string) bool {
	for _, part := range []string{"", "1", "n", "u0070", "0070", "070", "70", "0", "\xa9", "ull", "ll", "l", "rue", "ue", "e", "alse", "lse", "se"} { // the rest of an escape, a code point, a word, a number
		for _, way := range []string{"", "1", `"`, `zz"`, `"zz":1`, ":1", `":1`, `zz":1`} {
			if _, ok := others(s + part + way + closers(s+part+way)); ok {
				return true
			}
		}
	}
	return false
}

// badLength is the length of the shortest beginning of s with which no text begins, or one more than s has.
func badLength(s string) int {
	for n := 0; n <= len(s); n++ {
		if !begins(s[:n]) {
			return n
		}
	}
	return len(s) + 1
}

// agrees holds Read against another reader, and the bad length against trying.
func agrees(t *testing.T, s string) {
	t.Helper()
	if want, ok := others(s); ok {
		if hasLarge(want) {
			over(t, s, api.Limits{}, api.LimExp)
		} else {
			valid(t, s, api.Limits{}, want)
		}
		return
	}
	got, v := Read([]byte(s), api.Limits{})
	if want := badLength(s); v != (api.Verdict{Result: api.Malformed, At: want}) || !none(got) {
		t.Errorf("Read(%s) = %v, %v; want malformed with %d", cut(s), got, v, want)
	}
}

// P5.1, P5.3: all rows of a few pieces.
func TestAllRows(t *testing.T) {
	var grow func(s string, n int, pieces []string)
	grow = func(s string, n int, pieces []string) {
		agrees(t, s)
		if n > 0 {
			for _, p := range pieces {
				grow(s+p, n-1, pieces)
			}
		}
	}
	grow("", 3, []string{"[", "]", "{", "}", ",", ":", `"a"`, `"`, "1", "-", ".", "e", "null", "n", " ", "x", `\`})
	grow("", 4, []string{"[", "]", "{", "}", ",", `"a":`, `"a"`, "1", "t"})
	grow(`{"a":1`, 4, []string{"}", ",", `"a"`, `"b"`, ":", "1", " "})
	grow(`[1`, 4, []string{"]", ",", "{", `"b":`, "2", "}"})
}

// P5.1, P5.3, P5.5: texts made by chance, whole, cut off, and with a piece changed; every beginning of a text is bad with one more than it has, or a text.
func TestByChance(t *testing.T) {
	c := chance(9)
	var make1 func(depth int) string
	make1 = func(depth int) string {
		blank := []string{"", "", " ", "\n\t"}[c.below(4)]
		kind := c.below(9)
		if depth == 0 {
			kind = c.below(6)
		}
		switch kind {
		case 0:
			return blank + []string{"null", "true", "false"}[c.below(3)] + blank
		case 1, 2:
			return blank + []string{"0", "-1", "2.50", "1e5", "0.1E-2", "100", "12345678901234567890", "-0.0e+9"}[c.below(8)] + blank
		case 3, 4, 5:
			return blank + []string{`""`, `"a"`, `"é"`, `"\n"`, `"]"`, `"\""`, `",:{"`}[c.below(7)] + blank
		case 6, 7:
			var parts []string
			for range c.below(4) {
				parts = append(parts, make1(depth-1))
			}
			return blank + "[" + blank + strings.Join(parts, ",") + "]"
		}
		var parts []string
		for i := range c.below(4) {
			key := []string{`"a"`, `"b"`, `"\u0061"`, `"x` + strconv.Itoa(i) + `"`, `"y` + strconv.Itoa(i) + `"`}[c.below(5)]
			parts = append(parts, blank+key+blank+":"+make1(depth-1))
		}
		return "{" + blank + strings.Join(parts, ",") + "}" + blank
	}
	pieces := []string{"[", "]", "{", "}", ",", ":", "1", " ", "x", "null", "-", "e", `"`, `"a"`}
	for range 1500 {
		s := make1(4)
		agrees(t, s)
		if _, ok := others(s); ok {
			for n := range len(s) {
				part := s[:n]
				if _, v := Read([]byte(part), api.Limits{}); v.Result != api.Valid && v != (api.Verdict{Result: api.Malformed, At: n + 1}) {
					t.Errorf("Read(%s), a text's beginning: %v", cut(part), v)
				}
			}
		}
		at := c.below(len(s) + 1)
		behind := min(at+c.below(3), len(s))
		if len(s) < 60 {
			agrees(t, s[:at]+pieces[c.below(len(pieces))]+s[behind:])
		}
	}
}

// R3: what is answered is new memory, in no two lists alike, and what is handed in is not changed.
func TestNewMemory(t *testing.T) {
	s := `{"key":["text",123,[],[1],[2]],"other":{"in":null}}`
	b := []byte(s)
	v, _, _ := Parse(b)
	want, _ := others(s)
	if string(b) != s {
		t.Errorf("Parse changes %s to %s", s, b)
	}
	copy(b, bytes.Repeat([]byte("z"), len(b)))
	if !same(v, want) {
		t.Errorf("the value becomes %v", v)
	}
	inner := v.List[0].List
	_ = append(inner[3].List, null)
	_ = append(inner[2].List, null)
	_ = append(v.List[1].List, null)
	_ = append(v.List[1].Keys, "z")
	_ = append(inner, null)
	inner[3].List[0] = null
	if !same(inner[4], list(num("2"))) || !same(v.List[1], want.List[1]) || v.Keys[0] != "key" {
		t.Errorf("lists share memory: %v", v)
	}
}

// R1: long texts of all forms end soon.
func TestLongTexts(t *testing.T) {
	for _, unit := range []string{"1,", `"",`, "[],", "{},", `{"a":1},`, "[[[]]],", "null,", "0.5e1,", `"\u00e9",`} {
		n := (api.MaxBytes - 2) / len(unit)
		s := "[" + strings.TrimSuffix(strings.Repeat(unit, n), ",") + "]"
		if v, _, e := Parse([]byte(s)); e != api.OK || len(v.List) != n {
			t.Errorf("%d of %s: %d, %d", n, unit, e, len(v.List))
		}
	}
	over(t, "["+strings.TrimSuffix(strings.Repeat("1e9999999,", 100000), ",")+"]", api.Limits{}, api.LimExp)
	over(t, "["+strings.TrimSuffix(strings.Repeat(strings.Repeat("9", 65537)+",", 15), ",")+"]", api.Limits{}, api.LimDigits)
}

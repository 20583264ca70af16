package value

import (
	"slices"
	"strconv"
	"testing"

	"caliper/api"
	"caliper/dec"
	"caliper/json"
)

// cut is a text, short enough to be told.
func cut(s string) string {
	if len(s) > 80 {
		return strconv.Quote(s[:40]) + ".." + strconv.Itoa(len(s)) + " bytes.." + strconv.Quote(s[len(s)-20:])
	}
	return strconv.Quote(s)
}

// chance is a row of numbers that look as if they had no rule, the same ones each time.
type chance uint64

func (c *chance) below(n int) int {
	*c = *c*6364136223846793005 + 1442695040888963407
	return int(uint64(*c)>>33) % n
}

// The values that tests are made of.
func num(s string) api.Value {
	d, e := dec.Parse(s)
	if e != api.OK {
		panic(s)
	}
	return api.Value{Kind: api.Number, Num: d}
}

func text(s string) api.Value { return api.Value{Kind: api.String, Text: s} }

func list(vs ...api.Value) api.Value { return api.Value{Kind: api.Array, List: vs} }

func object(keys []string, vs ...api.Value) api.Value {
	return api.Value{Kind: api.Object, Keys: keys, List: vs}
}

func null() api.Value { return api.Value{Kind: api.Null} }

// read is the value of a text that is one.
func read(t *testing.T, s string) api.Value {
	t.Helper()
	v, _, e := json.Parse([]byte(s))
	if e != api.OK {
		t.Fatalf("Parse(%s): %d", cut(s), e)
	}
	return v
}

// same tells whether two values are the same in all fields and in order; nil and empty lists are.
func same(a api.Value, b api.Value) bool {
	if a.Kind != b.Kind || a.Num != b.Num || a.Text != b.Text || len(a.List) != len(b.List) || len(a.Keys) != len(b.Keys) {
		return false
	}
	for i := range a.Keys {
		if a.Keys[i] != b.Keys[i] {
			return false
		}
	}
	for i := range a.List {
		if !same(a.List[i], b.List[i]) {
			return false
		}
	}
	return true
}

// twin is the same value in other memory, by other means than the package's.
func twin(v api.Value) api.Value {
	out := api.Value{Kind: v.Kind, Num: v.Num, Text: v.Text}
	out.Keys = append(out.Keys, v.Keys...)
	for _, e := range v.List {
		out.List = append(out.List, twin(e))
	}
	return out
}

// spoil writes over all lists of a value, and over the room behind their ends.
func spoil(v api.Value) {
	for i := range v.List {
		spoil(v.List[i])
	}
	keys, all := v.Keys[:cap(v.Keys)], v.List[:cap(v.List)]
	for i := range keys {
		keys[i] = "spoilt"
	}
	for i := range all {
		all[i] = text("spoilt")
	}
}

// nested is a value in that many arrays or objects, of which some are both.
func nested(levels int, inner api.Value, isObject func(level int) bool) api.Value {
	v := inner
	for i := range levels {
		if isObject(i) {
			v = object([]string{"a"}, v)
		} else {
			v = list(v)
		}
	}
	return v
}

func arrays(int) bool { return false }

func objects(int) bool { return true }

func both(level int) bool { return level%2 == 1 }

// rows are values in rising order; those of one row are equal, in other words.
func rows() [][]string {
	return [][]string{
		{"null", " null "},
		{"false"},
		{"true"},
		{"-1e1000000", "-10e999999"},
		{"-100", "-1e2", "-1000e-1"},
		{"-1.5", "-15e-1", "-1.50"},
		{"-1", "-1.0"},
		{"-1e-1000000"},
		{"0", "-0", "0.0", "0e5", "-0e-99999999999"},
		{"1e-1000000", "0.1e-999999"},
		{"0.1", "1e-1", "0.10"},
		{"1", "10e-1", "1.0", "1E0", "100e-2"},
		{"2"},
		{"9"},
		{"10", "1e1", "1e+1"},
		{"12345678901234567890123"},
		{"12345678901234567890124"},
		{"1e1000000"},
		{`""`},
		{`"\u0000"`},
		{`" "`},
		{`"0"`},
		{`"1"`},
		{`"10"`},
		{`"2"`},
		{`"A"`, `"\u0041"`},
		{`"a"`, `"\u0061"`},
		{`"a\u0000"`},
		{`"aa"`},
		{`"ab"`},
		{`"b"`},
		{`"null"`},
		{"\"\x7f\""},
		{`"\u0080"`},
		{`"é"`, `"\u00e9"`},
		{`"߿"`, `"\u07ff"`},
		{`"ࠀ"`, `"\u0800"`},
		{`"\ue000"`},
		{`"\uffff"`},
		{`"\ud800\udc00"`},
		{`"😀"`, `"\ud83d\ude00"`},
		{`"\udbff\udfff"`},
		{"[]", "[ ]"},
		{"[null]"},
		{"[true]"},
		{"[1]", "[1.0]"},
		{"[9]"},
		{`["1"]`},
		{"[[]]"},
		{"[[1]]"},
		{"[[1,1]]"},
		{"[{}]"},
		{`[{"a":1}]`},
		{"[null,null]"},
		{"[null,1]"},
		{"[false,null]"},
		{"[1,2]", "[1,20e-1]"},
		{"[1,3]"},
		{"[2,1]"},
		{"[2,[]]"},
		{"[0,0,0]"},
		{"{}", "{ }"},
		{`{"":null}`},
		{`{"":{"z":1}}`},
		{`{"A":9}`},
		{`{"a":1}`, `{"\u0061":1.0}`},
		{`{"a":2}`},
		{`{"a":{}}`},
		{`{"aa":0}`},
		{`{"b":0}`},
		{`{"é":0}`},
		{`{"\uffff":0}`},
		{`{"😀":0}`},
		{`{"":1,"b":1}`, `{"b":1,"":1}`},
		{`{"a":1,"aa":1}`, `{"aa":1,"a":1}`},
		{`{"a":1,"b":1}`, `{"b":1,"a":1}`, `{"b":10e-1,"a":1.0}`},
		{`{"a":1,"b":2}`, `{"b":2,"a":1}`},
		{`{"a":2,"b":1}`, `{"b":1,"a":2}`},
		{`{"a":{"c":1,"d":2},"b":1}`, `{"b":1,"a":{"d":2,"c":1}}`},
		// The keys are asked first, all of them: a's values would say otherwise.
		{`{"a":0,"c":0}`, `{"c":0,"a":0}`},
		{`{"b":0,"c":0}`},
		{`{"a":0,"b":0,"c":0}`, `{"c":0,"b":0,"a":0}`, `{"b":0,"c":0,"a":0}`, `{"a":0,"c":0,"b":0}`},
	}
}

// sayings are the values of rows, and the row of each.
func sayings(t *testing.T) ([]api.Value, []int) {
	var all []api.Value
	var row []int
	for i, texts := range rows() {
		for _, s := range texts {
			all, row = append(all, read(t, s)), append(row, i)
		}
	}
	return all, row
}

// value is one of some depth at most, of few keys, texts and numbers, so that equal ones come up.
func (c *chance) value(depth int) api.Value {
	texts := []string{"", "a", "b", "aa", "é", "\x1f\"\\", "😀"}
	kind := api.Kind(c.below(5))
	if depth > 0 {
		kind = min(api.Kind(c.below(10)), api.Object)
	}
	v := api.Value{Kind: kind}
	switch kind {
	case api.Number:
		v = num([]string{"0", "1", "-1", "10", "0.5", "-25e-1", "1e9"}[c.below(7)])
	case api.String:
		v.Text = texts[c.below(len(texts))]
	case api.Array:
		for range c.below(4) {
			v.List = append(v.List, c.value(depth-1))
		}
	case api.Object:
		for range c.below(5) {
			if key := texts[c.below(len(texts))]; !slices.Contains(v.Keys, key) {
				v.Keys, v.List = append(v.Keys, key), append(v.List, c.value(depth-1))
			}
		}
	}
	return v
}

// shuffled is an equal value, where members stand in some other order.
func (c *chance) shuffled(v api.Value) api.Value {
	out := twin(v)
	for i := range out.List {
		out.List[i] = c.shuffled(out.List[i])
	}
	for i := len(out.Keys) - 1; i > 0; i-- {
		j := c.below(i + 1)
		out.Keys[i], out.Keys[j] = out.Keys[j], out.Keys[i]
		out.List[i], out.List[j] = out.List[j], out.List[i]
	}
	return out
}

// random are values that look as if they had no rule, some of them in two orders.
func random(n int) []api.Value {
	c := chance(6)
	var all []api.Value
	for range n {
		v := c.value(3)
		all = append(all, v)
		if c.below(3) > 0 {
			all = append(all, c.shuffled(v))
		}
	}
	return all
}

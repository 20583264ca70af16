package value

import (
	"bytes"
	stdjson "encoding/json"
	"io"
	"strconv"
	"strings"
	"testing"
	"unicode/utf8"

	"caliper/api"
	"caliper/json"
)

// P6.3: canonical texts, of values in other words.
func TestText(t *testing.T) {
	cases := map[string]string{
		`{"b":1.0,"a":[]}`:                       `{"a":[],"b":1}`,
		`{"a":[],"b":1}`:                         `{"a":[],"b":1}`,
		` null `:                                 `null`,
		`true`:                                   `true`,
		`false`:                                  `false`,
		`-0.0e7`:                                 `0`,
		`100`:                                    `1e2`,
		`1.50E+2`:                                `15e1`,
		`-0.025`:                                 `-25e-3`,
		`1e-1000000`:                             `1e-1000000`,
		`123456789012345678901234567890.5`:       `1234567890123456789012345678905e-1`,
		`""`:                                     `""`,
		`"\u0061\/\u00e9\ud83d\ude00\u007f"`:     "\"a/é😀\x7f\"",
		`"\b\f\n\r\t\"\\\u0000\u001F\u0008"`:     `"\b\f\n\r\t\"\\\u0000\u001f\b"`,
		`"<>&\u2028\u2029"`:                      "\"<>&\u2028\u2029\"",
		`[ ]`:                                    `[]`,
		`{ }`:                                    `{}`,
		"[ 1 ,\n2 , [ ] ]":                       `[1,2,[]]`,
		`[[],{},[[]],[{}],""]`:                   `[[],{},[[]],[{}],""]`,
		`[3,1,2]`:                                `[3,1,2]`,
		`{"b":{"d":1,"c":[{"z":0,"y":0}]},"":0}`: `{"":0,"b":{"c":[{"y":0,"z":0}],"d":1}}`,
		`{"a b":" ","\"":"\\","\u0001":"\u0001","\n":1}`: `{"\u0001":"\u0001","\n":1,"\"":"\\","a b":" "}`,
		`{"aa":1,"a":2,"b":3,"B":4,"ab":5}`:              `{"B":4,"a":2,"aa":1,"ab":5,"b":3}`,
		`{"😀":1,"\uffff":2,"é":3,"z":4}`:                 "{\"z\":4,\"é\":3,\"\uffff\":2,\"😀\":1}",
	}
	for s, want := range cases {
		if got, e := Text(read(t, s)); got != want || e != api.OK {
			t.Errorf("Text(%s) = %s, %d; want %s", s, got, e, want)
		}
	}
	if s, e := Text(api.Value{}); s != "null" || e != api.OK {
		t.Errorf("Text of a zero value = %s, %d", s, e)
	}
	digits := strings.Repeat("7", api.MaxDigits)
	if s, e := Text(num("-" + digits)); s != "-"+digits || e != api.OK {
		t.Errorf("Text of MaxDigits digits = %s, %d", cut(s), e)
	}
	long := strings.Repeat("\x01", 300000)
	if s, e := Text(text(long)); s != `"`+strings.Repeat(`\u0001`, 300000)+`"` || e != api.OK {
		t.Errorf("Text of a long string = %s, %d", cut(s), e)
	}
}

// P6.5: texts of one row are the same, of two are not; each is read as an equal value, and is its own canonical text.
func TestTextIsRead(t *testing.T) {
	all, row := sayings(t)
	texts := map[string]int{}
	for i, v := range all {
		s, e := Text(v)
		if e != api.OK {
			t.Fatalf("Text(%v): %d", v, e)
		}
		if at, there := texts[s]; there && at != row[i] {
			t.Errorf("%s is the text of two rows", s)
		} else if !there && i > 0 && row[i] == row[i-1] {
			t.Errorf("%s is another text than the one ahead of it", s)
		}
		texts[s] = row[i]
	}
	for _, v := range append(all, random(500)...) {
		s, _ := Text(v)
		back, _, e := json.Parse([]byte(s))
		if e != api.OK || !Equal(back, v) || slowCompare(back, v) != 0 || !same(back, Sorted(v)) {
			t.Errorf("Text(%v) = %s, read as %v", v, s, back)
		}
		if again, _ := Text(back); again != s {
			t.Errorf("Text of %s = %s", s, again)
		}
		if sorted, _ := Text(Sorted(v)); sorted != s {
			t.Errorf("Text of Sorted = %s; want %s", sorted, s)
		}
		var compact bytes.Buffer
		if err := stdjson.Compact(&compact, []byte(s)); err != nil || compact.String() != s {
			t.Errorf("%s is not compact JSON: %v", s, err)
		}
	}
}

// P6.3: texts at the limits.
func TestTextDeep(t *testing.T) {
	if s, e := Text(nested(api.MaxDepth, null(), arrays)); s != strings.Repeat("[", api.MaxDepth)+"null"+strings.Repeat("]", api.MaxDepth) || e != api.OK {
		t.Errorf("Text of deep arrays = %s, %d", cut(s), e)
	}
	if s, e := Text(nested(api.MaxDepth, null(), objects)); s != strings.Repeat(`{"a":`, api.MaxDepth)+"null"+strings.Repeat("}", api.MaxDepth) || e != api.OK {
		t.Errorf("Text of deep objects = %s, %d", cut(s), e)
	}
	if s, e := Text(nested(api.MaxDepth+1, null(), both)); s != "" || e != api.ErrValue {
		t.Errorf("Text of what is too deep = %s, %d", cut(s), e)
	}
}

// counts are a text's size, longest and depth by another reader.
func counts(t *testing.T, s string) (int, int, int) {
	size, longest, depth, open := 0, 0, 0, 0
	var isKey []bool // of each that is open: whether a key comes next; arrays have none
	var isObject []bool
	d := stdjson.NewDecoder(strings.NewReader(s))
	d.UseNumber()
	for {
		token, err := d.Token()
		if err == io.EOF {
			return size, longest, depth
		}
		if err != nil {
			t.Fatal(err)
		}
		if sign, ok := token.(stdjson.Delim); ok && (sign == ']' || sign == '}') {
			open, isKey, isObject = open-1, isKey[:open-1], isObject[:open-1]
			continue
		}
		if told, ok := token.(string); ok {
			longest = max(longest, utf8.RuneCountInString(told))
		}
		key := open > 0 && isObject[open-1] && isKey[open-1]
		if open > 0 && isObject[open-1] {
			isKey[open-1] = !key
		}
		if key {
			continue
		}
		size++
		if sign, ok := token.(stdjson.Delim); ok {
			open, isKey, isObject = open+1, append(isKey, true), append(isObject, sign == '{')
			depth = max(depth, open)
		}
	}
}

// P6.4: counts of values, code points and levels.
func TestCounts(t *testing.T) {
	cases := []struct {
		s                    string
		size, longest, depth int
	}{
		{`null`, 1, 0, 0},
		{`true`, 1, 0, 0},
		{`12345`, 1, 0, 0},
		{`""`, 1, 0, 0},
		{`"abc"`, 1, 3, 0},
		{`"é"`, 1, 1, 0},
		{`"a\u07ff\u0800\uffff\ud800\udc00😀"`, 1, 6, 0},
		{`"\u0000\n"`, 1, 2, 0},
		{`"e\u0301"`, 1, 2, 0},
		{`[]`, 1, 0, 1},
		{`{}`, 1, 0, 1},
		{`[1]`, 2, 0, 1},
		{`[[]]`, 2, 0, 2},
		{`[{}]`, 2, 0, 2},
		{`{"":[]}`, 2, 0, 2},
		{`{"abcd":null}`, 2, 4, 1},
		{`{"a":"bc"}`, 2, 2, 1},
		{`{"bc":"a"}`, 2, 2, 1},
		{`{"é😀":"a"}`, 2, 2, 1},
		{`["a","abc","ab"]`, 4, 3, 1},
		{`["abc","a"]`, 3, 3, 1},
		{`{"b":1.0,"a":[]}`, 3, 1, 2},
		{`[1,[2,[3,[4]]],5]`, 9, 0, 4},
		{`[[[[]]],[],[[]]]`, 7, 0, 4},
		{`[[],[[]],[[[]]]]`, 7, 0, 4},
		{`{"a":{"b":{"ccccc":[1,2,{}]}},"d":"dddd"}`, 8, 5, 5},
	}
	for _, c := range cases {
		v := read(t, c.s)
		if Size(v) != c.size || Longest(v) != c.longest || Depth(v) != c.depth {
			t.Errorf("%s: Size %d, Longest %d, Depth %d; want %d, %d, %d", c.s, Size(v), Longest(v), Depth(v), c.size, c.longest, c.depth)
		}
	}
	for _, v := range random(500) {
		s, _ := Text(v)
		size, longest, depth := counts(t, s)
		if Size(v) != size || Longest(v) != longest || Depth(v) != depth {
			t.Errorf("%s: Size %d, Longest %d, Depth %d; want %d, %d, %d", s, Size(v), Longest(v), Depth(v), size, longest, depth)
		}
	}
}

// P6.4: counts at the limits.
func TestCountsLarge(t *testing.T) {
	for _, isObject := range []func(int) bool{arrays, objects, both} {
		v := nested(api.MaxDepth, text("é😀x"), isObject)
		if Size(v) != api.MaxDepth+1 || Longest(v) != 3 || Depth(v) != api.MaxDepth {
			t.Errorf("Size %d, Longest %d, Depth %d", Size(v), Longest(v), Depth(v))
		}
	}
	wide := read(t, "["+strings.Repeat(`"",`, 300000)+strconv.Quote(strings.Repeat("é", 40000))+"]")
	if Size(wide) != 300002 || Longest(wide) != 40000 || Depth(wide) != 1 {
		t.Errorf("Size %d, Longest %d, Depth %d", Size(wide), Longest(wide), Depth(wide))
	}
}

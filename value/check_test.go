package value

import (
	"math"
	"strconv"
	"strings"
	"testing"

	"caliper/api"
)

// P6.1: what layer 5 makes may be.
func TestCheckTakes(t *testing.T) {
	all, _ := sayings(t)
	all = append(all, random(300)...)
	all = append(all,
		api.Value{},
		api.Value{Kind: api.Number},
		api.Value{Kind: api.String},
		api.Value{Kind: api.Array, List: []api.Value{}, Keys: []string{}},
		api.Value{Kind: api.Object, List: []api.Value{}, Keys: []string{}},
		api.Value{Kind: api.Object, List: []api.Value{}},
		api.Value{Kind: api.Null, List: []api.Value{}, Keys: make([]string, 0, 5)},
		api.Value{Kind: api.Number, Num: api.Dec{Neg: true, Digits: strings.Repeat("7", api.MaxDigits), Exp: -api.MaxExp}},
		api.Value{Kind: api.Number, Num: api.Dec{Digits: "1", Exp: api.MaxExp}},
		text(strings.Repeat("😀", 300000)),
		object([]string{"a", "A", "aa", "", "\x00", "a\x00"}, null(), null(), null(), null(), null(), null()),
		object([]string{"é", "e\u0301"}, null(), null()),
		object([]string{"a"}, object([]string{"a"}, object([]string{"a"}, null()))),
		list(object([]string{"a"}, null()), object([]string{"a"}, null())),
	)
	for _, v := range all {
		if e := Check(v); e != api.OK {
			t.Errorf("Check(%v) = %d", v, e)
		}
	}
}

// wrongTexts are no valid UTF-8.
func wrongTexts() []string {
	return []string{
		"\x80", "\xbf", "\xff", "\xfe", "a\x80", "\x80a", "é\xc3", "\xc3", "\xc3(", "\xe2\x82", "\xe2(", "\xf0\x9f\x98", "\xf0\x9f(",
		"\xc0\x80", "\xc1\xbf", "\xe0\x80\x80", "\xe0\x9f\xbf", "\xf0\x80\x80\x80", "\xf0\x8f\xbf\xbf",
		"\xed\xa0\x80", "\xed\xbf\xbf", "\xed\xa0\xbd\xed\xb8\x80", "\xf4\x90\x80\x80", "\xf5\x80\x80\x80", "good\xffbad",
	}
}

// wrongNums are numbers that may not be.
func wrongNums() []api.Dec {
	return []api.Dec{
		{Neg: true}, {Exp: 1}, {Exp: -1}, {Digits: "0"}, {Digits: "01"}, {Digits: "10"}, {Digits: "1x1"}, {Digits: "-1"}, {Digits: "1.5"}, {Digits: "\xff"},
		{Digits: "1", Exp: api.MaxExp + 1}, {Digits: "1", Exp: -api.MaxExp - 1}, {Digits: "1", Exp: math.MinInt}, {Digits: strings.Repeat("1", api.MaxDigits+1)},
	}
}

// wrongs are values that may not be.
func wrongs() []api.Value {
	var all []api.Value
	for _, kind := range []api.Kind{-1, 7, 8, 9, 255, 256, 1 << 32, 1<<32 + 5, math.MaxInt, math.MinInt} {
		all = append(all, api.Value{Kind: kind}, api.Value{Kind: kind, List: []api.Value{null()}}, api.Value{Kind: kind, List: []api.Value{null()}, Keys: []string{"a"}})
	}
	one := api.Dec{Digits: "1"}
	for kind := api.Null; kind <= api.Object; kind++ {
		if kind != api.Number {
			all = append(all, api.Value{Kind: kind, Num: one}, api.Value{Kind: kind, Num: api.Dec{Neg: true}}, api.Value{Kind: kind, Num: api.Dec{Exp: 1}})
		}
		if kind != api.String {
			all = append(all, api.Value{Kind: kind, Text: "a"}, api.Value{Kind: kind, Text: "\x00"}, api.Value{Kind: kind, Text: "\xff"})
		}
		if kind < api.Array {
			all = append(all, api.Value{Kind: kind, List: []api.Value{null()}}, api.Value{Kind: kind, List: []api.Value{null()}, Keys: []string{"a"}})
		}
		if kind < api.Object {
			all = append(all, api.Value{Kind: kind, Keys: []string{""}}, api.Value{Kind: kind, Keys: []string{"a", "b"}})
		}
	}
	all = append(all,
		api.Value{Kind: api.Array, List: []api.Value{null()}, Keys: []string{"a"}},
		api.Value{Kind: api.String, Text: "a", Num: one},
		api.Value{Kind: api.Number, Text: "1", Num: one},
		object([]string{"a"}),
		object(nil, null()),
		object([]string{"a", "b"}, null()),
		object([]string{"a"}, null(), null()),
		object([]string{"a", "b", "c"}, null(), null()),
		object([]string{"a", "a"}, null(), null()),
		object([]string{"", ""}, null(), null()),
		object([]string{"a", "b", "a"}, null(), null(), null()),
		object([]string{"b", "a", "c", "a"}, null(), null(), null(), null()),
		object([]string{"é", "x", "é"}, null(), null(), null()),
		object([]string{"a", "a"}, num("1"), num("2")),
	)
	for _, d := range wrongNums() {
		all = append(all, api.Value{Kind: api.Number, Num: d})
	}
	for _, s := range wrongTexts() {
		all = append(all, text(s), object([]string{s}, null()), object([]string{"a", s}, null(), null()), object([]string{s, "a"}, null(), null()))
	}
	return all
}

// inner puts a value further in, in several ways.
func inner(v api.Value) []api.Value {
	return []api.Value{
		list(v),
		list(null(), v),
		list(v, null()),
		list(text("a"), num("1"), v, list()),
		object([]string{"a"}, v),
		object([]string{"a", "b"}, null(), v),
		object([]string{"b", "a"}, v, null()),
		list(object([]string{"a"}, list(v))),
		object([]string{"a"}, list(object([]string{"a"}, v))),
		nested(500, v, both),
		nested(api.MaxDepth-3, v, arrays),
	}
}

func refused(t *testing.T, v api.Value, told string) {
	t.Helper()
	if e := Check(v); e != api.ErrValue {
		t.Errorf("Check(%s) = %d; want %d", told, e, api.ErrValue)
	}
	if s, e := Text(v); s != "" || e != api.ErrValue {
		t.Errorf("Text(%s) = %s, %d; want %d", told, cut(s), e, api.ErrValue)
	}
}

// P6.1, P6.3: Check and Text refuse what may not be, by itself and further in.
func TestCheckRefuses(t *testing.T) {
	for i, v := range wrongs() {
		told := "wrongs()[" + strconv.Itoa(i) + "]"
		refused(t, v, told)
		for j, w := range inner(v) {
			refused(t, w, told+" further in, "+strconv.Itoa(j))
		}
	}
	for i, v := range inner(null()) {
		if e := Check(v); e != api.OK {
			t.Errorf("Check(inner(null)[%d]) = %d", i, e)
		}
	}
}

// P6.1: each key may be there once, wherever the second one stands.
func TestCheckManyKeys(t *testing.T) {
	const n = 2000
	keys := make([]string, n)
	for i := range n {
		keys[i] = strconv.Itoa(i * 7919 % n)
	}
	v := object(keys, make([]api.Value, n)...)
	if e := Check(v); e != api.OK {
		t.Fatal(e)
	}
	for i := range n {
		kept := keys[i]
		keys[i] = keys[(i+1)%n]
		refused(t, v, "a key twice, at "+strconv.Itoa(i))
		keys[i] = kept
	}
}

// P6.1: how deep a value may be.
func TestCheckDepth(t *testing.T) {
	inners := []api.Value{list(), object(nil), list(null(), num("1")), object([]string{"a", "b"}, null(), text("x"))}
	for _, isObject := range []func(int) bool{arrays, objects, both} {
		for i, in := range inners {
			if v := nested(api.MaxDepth-1, in, isObject); Check(v) != api.OK || Depth(v) != api.MaxDepth {
				t.Errorf("inner %d: Check of MaxDepth levels = %d, Depth %d", i, Check(v), Depth(v))
			}
			refused(t, nested(api.MaxDepth, in, isObject), "one level more")
		}
		if e := Check(nested(api.MaxDepth, null(), isObject)); e != api.OK {
			t.Errorf("Check of MaxDepth levels round null = %d", e)
		}
		for _, levels := range []int{api.MaxDepth + 1, 2 * api.MaxDepth, 1 << 16, 1 << 20} {
			refused(t, nested(levels, null(), isObject), strconv.Itoa(levels)+" levels")
		}
	}
	deep := nested(api.MaxDepth, null(), both)
	if e := Check(list(null(), deep)); e != api.ErrValue {
		t.Errorf("Check of a deep element behind another = %d", e)
	}
	refused(t, object([]string{"a", "b"}, null(), deep), "a deep member behind another")
}

// R1: Check ends also of a list that holds itself, in several places.
func TestCheckOfItself(t *testing.T) {
	l := make([]api.Value, 4)
	for i := range l {
		l[i] = api.Value{Kind: api.Array, List: l}
	}
	refused(t, l[0], "a list in itself")
	l[0] = api.Value{Kind: api.Object, List: l, Keys: []string{"a", "b", "c", "d"}}
	refused(t, l[0], "an object in itself")
}

// R3: no call changes what it is given.
func TestNothingIsChanged(t *testing.T) {
	all, _ := sayings(t)
	all = append(all, random(200)...)
	all = append(all, read(t, `{"c":[{"b":1,"a":2},[3,1,2]],"a":{"z":0,"y":{}},"b":null}`))
	for _, v := range all {
		kept := twin(v)
		Check(v)
		Equal(v, kept)
		Compare(v, kept)
		Compare(kept, v)
		Unique([]api.Value{v, kept, v})
		Get(v, "a")
		Sorted(v)
		Text(v)
		Size(v)
		Longest(v)
		Depth(v)
		if !same(v, kept) {
			t.Errorf("%v was changed to %v", kept, v)
		}
	}
	l := []api.Value{num("3"), num("1"), object([]string{"b", "a"}, null(), null()), num("2"), null()}
	kept := twin(list(l...))
	Unique(l)
	if !same(list(l...), kept) {
		t.Errorf("Unique changed %v to %v", kept.List, l)
	}
}

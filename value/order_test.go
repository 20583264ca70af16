package value

import (
	"cmp"
	"math/big"
	"slices"
	"sort"
	"strconv"
	"strings"
	"testing"

	"caliper/api"
)

// P6.2: the order of values, of every kind with every other; equal ones in other words.
func TestCompareRows(t *testing.T) {
	all, row := sayings(t)
	for i, a := range all {
		for j, b := range all {
			want := cmp.Compare(row[i], row[j])
			if c := Compare(a, b); c != want {
				t.Errorf("Compare(%v, %v) = %d; want %d", a, b, c, want)
			}
			if Equal(a, b) != (want == 0) {
				t.Errorf("Equal(%v, %v) = %t", a, b, want != 0)
			}
			if u := Unique([]api.Value{a, b}); u != (want != 0) {
				t.Errorf("Unique(%v, %v) = %t", a, b, u)
			}
		}
	}
}

// P6.2: the document's examples, and what is easily taken for equal.
func TestEqual(t *testing.T) {
	equal := [][2]string{
		{`{"b":1.0,"a":[]}`, `{"a":[],"b":1}`},
		{`1`, `10e-1`},
		{`[{"a":1,"b":2},0]`, `[{"b":2,"a":1},0.0]`},
		{`{"x":{"b":[1],"a":{"d":1,"c":2}}}`, `{"x":{"a":{"c":2,"d":1},"b":[1]}}`},
	}
	for _, c := range equal {
		if a, b := read(t, c[0]), read(t, c[1]); !Equal(a, b) || !Equal(b, a) || Unique([]api.Value{a, b}) {
			t.Errorf("%s and %s are not equal", c[0], c[1])
		}
	}
	unlike := [][2]string{
		{`1`, `true`}, {`0`, `false`}, {`0`, `null`}, {`null`, `false`}, {`1`, `"1"`}, {`""`, `null`}, {`[]`, `{}`}, {`[]`, `null`}, {`""`, `[]`},
		{`1`, `1.0000000000000000000000000000001`}, {`1`, `-1`}, {`1`, `[1]`}, {`"a"`, `"A"`}, {`"a"`, `"a "`}, {`"é"`, `"e\u0301"`},
		{`[1,2]`, `[2,1]`}, {`[1]`, `[1,1]`}, {`[[],[]]`, `[[[]]]`}, {`[{}]`, `[[]]`}, {`[[1],[]]`, `[[],[1]]`},
		{`{"a":1}`, `{"b":1}`}, {`{"a":1}`, `{"a":2}`}, {`{"a":1,"b":2}`, `{"a":2,"b":1}`}, {`{"a":1}`, `{"a":1,"b":1}`}, {`{"a":1}`, `["a",1]`}, {`{"a":null}`, `{}`},
		{`{"a":{"b":1}}`, `{"a":{"b":2}}`}, {`{"a":{"b":1}}`, `{"b":{"a":1}}`}, {`{"ab":""}`, `{"a":"b"}`},
	}
	for _, c := range unlike {
		if a, b := read(t, c[0]), read(t, c[1]); Equal(a, b) || Equal(b, a) || !Unique([]api.Value{a, b}) {
			t.Errorf("%s and %s are equal", c[0], c[1])
		}
	}
}

// ratio is a number's value, by other means.
func ratio(d api.Dec) *big.Rat {
	r, ok := new(big.Rat).SetString("0" + d.Digits + "e" + strconv.Itoa(d.Exp))
	if !ok {
		panic(d)
	}
	if d.Neg {
		r.Neg(r)
	}
	return r
}

// memberMap are an object's members, and its keys sorted.
func memberMap(v api.Value) (map[string]api.Value, []string) {
	m := map[string]api.Value{}
	for i, k := range v.Keys {
		m[k] = v.List[i]
	}
	keys := slices.Clone(v.Keys)
	sort.Strings(keys)
	return m, keys
}

// slowCompare says the order of P6.2 in another way.
func slowCompare(a api.Value, b api.Value) int {
	switch {
	case a.Kind != b.Kind:
		return cmp.Compare(a.Kind, b.Kind)
	case a.Kind == api.Number:
		return ratio(a.Num).Cmp(ratio(b.Num))
	case a.Kind == api.String:
		return slices.Compare([]rune(a.Text), []rune(b.Text))
	case len(a.List) != len(b.List):
		return cmp.Compare(len(a.List), len(b.List))
	case a.Kind == api.Array:
		return slices.CompareFunc(a.List, b.List, slowCompare)
	}
	am, as := memberMap(a)
	bm, bs := memberMap(b)
	if c := slices.Compare(as, bs); c != 0 {
		return c
	}
	for _, k := range as {
		if c := slowCompare(am[k], bm[k]); c != 0 {
			return c
		}
	}
	return 0
}

// P6.2, P6.5: many values, held against that; Equal is Compare 0, and the same canonical text.
func TestCompareRandom(t *testing.T) {
	all := random(400)
	equal := 0
	for _, a := range all {
		for _, b := range all {
			want := slowCompare(a, b)
			if c := Compare(a, b); c != want {
				t.Fatalf("Compare(%v, %v) = %d; want %d", a, b, c, want)
			}
			if Equal(a, b) != (want == 0) {
				t.Fatalf("Equal(%v, %v) = %t", a, b, want != 0)
			}
			as, _ := Text(a)
			bs, _ := Text(b)
			if (as == bs) != (want == 0) {
				t.Fatalf("texts %s and %s, Compare %d", as, bs, want)
			}
			if want == 0 && !same(a, b) {
				equal++
			}
		}
	}
	if equal < 50 {
		t.Errorf("only %d pairs are equal in other words: too few to tell anything", equal)
	}
}

// P6.2: Unique of none, of one, of two alike at any two places.
func TestUnique(t *testing.T) {
	if !Unique(nil) || !Unique([]api.Value{}) {
		t.Error("no values are not unique")
	}
	all, row := sayings(t)
	var firsts []api.Value
	for i, v := range all {
		if !Unique([]api.Value{v}) {
			t.Errorf("%v by itself is not unique", v)
		}
		if i == 0 || row[i] != row[i-1] {
			firsts = append(firsts, v)
		}
	}
	if !Unique(firsts) {
		t.Error("unlike values are not unique")
	}
	for i, v := range all {
		if again := append(slices.Clone(firsts), v); Unique(again) {
			t.Errorf("unique with %v twice", v)
		}
		if again := append([]api.Value{v}, firsts...); Unique(again) {
			t.Errorf("unique with %v twice, %d", v, i)
		}
	}
	if Unique([]api.Value{num("1"), num("10e-1")}) {
		t.Error("1 and 10e-1 are unique")
	}
	if !Unique([]api.Value{num("1"), {Kind: api.True}, text("1"), list(num("1")), null()}) {
		t.Error("1, true, \"1\", [1], null are not unique")
	}
}

// P6.5: in whatever order the elements stand, the answer is that of asking all pairs.
func TestUniqueOrders(t *testing.T) {
	c := chance(66)
	unique := 0
	for range 3000 {
		l := make([]api.Value, c.below(6))
		for i := range l {
			l[i] = c.value(2)
		}
		want := true
		for i := range l {
			for j := range i {
				want = want && slowCompare(l[i], l[j]) != 0
			}
		}
		if want {
			unique++
		}
		for range 6 {
			if u := Unique(l); u != want {
				t.Fatalf("Unique(%v) = %t", l, u)
			}
			for i := len(l) - 1; i > 0; i-- {
				j := c.below(i + 1)
				l[i], l[j] = l[j], l[i]
			}
		}
	}
	if unique < 300 || unique > 2700 {
		t.Errorf("%d of 3000 are unique: too few of one kind to tell anything", unique)
	}
}

// P6.2: Get finds each member, and nothing else.
func TestGet(t *testing.T) {
	v := read(t, `{"b":1,"a":[1,{"c":2}],"":null,"aa":{"a":"in"},"é":true,"\u0000":false,"ab":"x","B":0}`)
	for i, k := range v.Keys {
		if got, ok := Get(v, k); !ok || !same(got, v.List[i]) {
			t.Errorf("Get(%q) = %v, %t", k, got, ok)
		}
	}
	zero := func(got api.Value, ok bool, told string) {
		if ok || got.Kind != 0 || got.Num != (api.Dec{}) || got.Text != "" || len(got.List) != 0 || len(got.Keys) != 0 {
			t.Errorf("Get of %s = %v, %t", told, got, ok)
		}
	}
	for _, k := range []string{"c", "aaa", "abc", "A", "e\u0301", "e", "b ", " b", "\x00\x00", "\xff", "\xc3", "1", "in"} {
		got, ok := Get(v, k)
		zero(got, ok, strconv.Quote(k))
	}
	for _, s := range []string{"null", "true", "false", "1", `"a"`, "[]", `["a"]`, `[{"a":1}]`, "{}"} {
		for _, k := range []string{"a", "", "0"} {
			got, ok := Get(read(t, s), k)
			zero(got, ok, s)
		}
	}
}

// P6.2: Sorted has the same members, by rising keys, further in too, and arrays as they were.
func TestSorted(t *testing.T) {
	cases := map[string]string{
		`{"b":1,"a":2}`: `{"a":2,"b":1}`,
		`{"b":{"d":1,"c":2},"a":[{"z":1,"y":2},3,1]}`: `{"a":[{"y":2,"z":1},3,1],"b":{"c":2,"d":1}}`,
		`[3,1,2,{"b":[2,1],"a":0}]`:                   `[3,1,2,{"a":0,"b":[2,1]}]`,
		`{"aa":1,"a":2,"":3,"B":4,"ab":5,"b":6}`:      `{"":3,"B":4,"a":2,"aa":1,"ab":5,"b":6}`,
		`{"😀":1,"\uffff":2,"é":3,"z":4,"\u0000":5}`:   `{"\u0000":5,"z":4,"é":3,"\uffff":2,"😀":1}`,
		`{"10":1,"9":2,"1":3}`:                        `{"1":3,"10":1,"9":2}`,
		`{}`:                                          `{}`,
		`[]`:                                          `[]`,
		`"b"`:                                         `"b"`,
		`-1.50`:                                       `-1.5`,
		`null`:                                        `null`,
	}
	for s, want := range cases {
		if got := Sorted(read(t, s)); !same(got, read(t, want)) {
			t.Errorf("Sorted(%s) = %v; want %s", s, got, want)
		}
	}
	for _, v := range random(500) {
		got := Sorted(v)
		if !risingKeys(got) || slowCompare(got, v) != 0 || !same(Sorted(got), got) || Check(got) != api.OK {
			t.Errorf("Sorted(%v) = %v", v, got)
		}
	}
}

// risingKeys tells whether all objects' keys rise.
func risingKeys(v api.Value) bool {
	if !sort.StringsAreSorted(v.Keys) {
		return false
	}
	for _, e := range v.List {
		if !risingKeys(e) {
			return false
		}
	}
	return true
}

// R3: what Get and Sorted answer is new memory, and no two lists of it share any.
func TestNewMemory(t *testing.T) {
	inside := []api.Value{num("1"), num("2")}
	keys := []string{"x", "y"}
	shared := object([]string{"a", "b", "c"}, list(inside...), list(inside...), object(keys, list(), null()))
	shared.List[2].List[0].List = make([]api.Value, 0, 4)
	all := []api.Value{shared, object([]string{"c", "a", "b"}, shared, list(shared, shared), api.Value{Kind: api.Array, List: inside[:1]}), list(shared)}
	for _, v := range all {
		kept := twin(v)
		spoil(Sorted(v))
		for _, k := range v.Keys {
			got, _ := Get(v, k)
			spoil(got)
		}
		if !same(v, kept) || len(inside) != 2 || inside[1].Kind != api.Number || keys[0] != "x" {
			t.Fatalf("what was answered is part of %v", kept)
		}
	}
	got := Sorted(all[1])
	want := twin(got)
	spoil(got.List[2])
	if !same(got.List[0], want.List[0]) || !same(got.List[1], want.List[1]) {
		t.Error("two lists of Sorted's answer share memory")
	}
	member, _ := Get(all[1], "a")
	first := twin(member.List[0])
	spoil(member.List[1])
	if !same(member.List[0], first) {
		t.Error("two lists of Get's answer share memory")
	}
	room := make([]api.Value, 3)
	_ = append(Sorted(list(room[:2]...)).List, text("more"))
	if room[2].Kind != api.Null {
		t.Error("Sorted's answer has the room behind the argument's end")
	}
}

// Of values that may not be nothing is promised; still, keys without values and values without keys lead to no panic.
func TestNoPartners(t *testing.T) {
	for _, v := range wrongs() {
		for _, w := range wrongs() {
			if len(v.Keys) != len(v.List) || len(w.Keys) != len(w.List) {
				Compare(v, w)
			}
		}
		Get(v, "b")
		Sorted(v)
		Unique([]api.Value{v, v})
		Size(v)
		Longest(v)
		Depth(v)
	}
}

// Depths and widths at the limits are soon compared.
func TestCompareLarge(t *testing.T) {
	for _, isObject := range []func(int) bool{arrays, objects, both} {
		a, b := nested(api.MaxDepth-1, list(num("1")), isObject), nested(api.MaxDepth-1, list(num("2")), isObject)
		if Compare(a, b) != -1 || Compare(b, a) != 1 || Compare(a, twin(a)) != 0 || !Unique([]api.Value{a, b}) || Unique([]api.Value{a, b, twin(a)}) {
			t.Error("deep values are compared wrongly")
		}
		if s := Sorted(a); !same(s, a) {
			t.Error("a deep value is sorted wrongly")
		}
	}
	const n = 60000
	var up, down strings.Builder
	for i := range n {
		up.WriteString(`,"` + strconv.Itoa(100000+i) + `":[]`)
		down.WriteString(`,"` + strconv.Itoa(100000+n-1-i) + `":[]`)
	}
	a, b := read(t, "{"+up.String()[1:]+"}"), read(t, "{"+down.String()[1:]+"}")
	if !Equal(a, b) || !same(Sorted(b), a) || Check(b) != api.OK {
		t.Error("wide objects are compared wrongly")
	}
	l := make([]api.Value, 0, n+1)
	for i := range n {
		l = append(l, object([]string{"b", "a"}, num(strconv.Itoa(i*7919%n)), text("x")))
	}
	if !Unique(l) {
		t.Error("many unlike objects are not unique")
	}
	if Unique(append(l, object([]string{"a", "b"}, text("x"), num("777.0")))) {
		t.Error("many objects with two alike are unique")
	}
}

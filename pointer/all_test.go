package pointer

import (
	"slices"
	"strconv"
	"strings"
	"testing"

	"caliper/api"
	"caliper/value"
)

// P7.4: the pointers of all values, in the order of Lists.
func TestAll(t *testing.T) {
	cases := []struct {
		s    string
		want []string
	}{
		{"null", []string{""}},
		{"5", []string{""}},
		{`"a"`, []string{""}},
		{"[]", []string{""}},
		{"{}", []string{""}},
		{"[1]", []string{"", "/0"}},
		{"[[]]", []string{"", "/0"}},
		{"[1,2,3]", []string{"", "/0", "/1", "/2"}},
		{`{"a":1}`, []string{"", "/a"}},
		{`{"":1}`, []string{"", "/"}},
		{`{"":{"":[[]]}}`, []string{"", "/", "//", "///0"}},
		{`{"b":1,"a":2,"":3}`, []string{"", "/b", "/a", "/"}},
		{`{"a/b":1,"~":2,"~1":3,"~0/":4}`, []string{"", "/a~1b", "/~0", "/~01", "/~00~1"}},
		{`{"é %\"":[{"0":null}]}`, []string{"", "/é %\"", "/é %\"/0", "/é %\"/0/0"}},
		{`[[1,[2,3]],4,{"x":[5],"a":{"y":6}},[[]]]`, []string{"", "/0", "/0/0", "/0/1", "/0/1/0", "/0/1/1", "/1", "/2", "/2/x", "/2/x/0", "/2/a", "/2/a/y", "/3", "/3/0"}},
		{`{"c":{"b":[true],"a":{}},"a":[[],{"z":1}]}`, []string{"", "/c", "/c/b", "/c/b/0", "/c/a", "/a", "/a/0", "/a/1", "/a/1/z"}},
	}
	for _, c := range cases {
		if l := All(read(t, c.s)); !slices.Equal(l, c.want) {
			t.Errorf("All(%s) = %q; want %q", c.s, l, c.want)
		}
	}
}

// P7.4: numbers of elements in their own order, not in that of texts.
func TestAllOfManyElements(t *testing.T) {
	v, want := list(), []string{""}
	for i := range 1200 {
		v.List = append(v.List, null())
		want = append(want, "/"+strconv.Itoa(i))
	}
	if l := All(v); !slices.Equal(l, want) {
		t.Errorf("All of 1200 elements = %d pointers, %q ..", len(l), l[:min(len(l), 15)])
	}
}

// value is one of some depth at most, with keys that need escapes.
func (c *chance) value(depth int) api.Value {
	keys := []string{"", "a", "b", "0", "1", "-", "~", "/", "~1", "a/b", "é", "%", "😀", "~0~1"}
	kind := api.Kind(c.below(5))
	if depth > 0 {
		kind = min(api.Kind(c.below(12)), api.Object)
		if kind == api.Object && c.below(2) == 0 {
			kind = api.Array
		}
	}
	v := api.Value{Kind: kind}
	switch kind {
	case api.Number:
		v = num(strconv.Itoa(c.below(1000)))
	case api.String:
		v.Text = keys[c.below(len(keys))]
	case api.Array:
		for range c.below(4) {
			v.List = append(v.List, c.value(depth-1))
		}
	case api.Object:
		for range c.below(5) {
			if key := keys[c.below(len(keys))]; !slices.Contains(v.Keys, key) {
				v.Keys, v.List = append(v.Keys, key), append(v.List, c.value(depth-1))
			}
		}
	}
	return v
}

// walked are all values in a value, itself first, each with its pointer, by other means than the package's: a row of those that are still to come.
func walked(v api.Value) ([]string, []api.Value) {
	type place struct {
		at string
		v  api.Value
	}
	tilde := strings.NewReplacer("~", "~0", "/", "~1")
	var pointers []string
	var values []api.Value
	rest := []place{{"", v}}
	for len(rest) > 0 {
		p := rest[len(rest)-1]
		rest = rest[:len(rest)-1]
		pointers, values = append(pointers, p.at), append(values, p.v)
		for i := len(p.v.List) - 1; i >= 0; i-- {
			part := strconv.Itoa(i)
			if p.v.Kind == api.Object {
				part = tilde.Replace(p.v.Keys[i])
			}
			rest = append(rest, place{p.at + "/" + part, p.v.List[i]})
		}
	}
	return pointers, values
}

// P7.4, P7.5: All tells each value once, and Find finds it.
func TestFindFindsAll(t *testing.T) {
	c := chance(74)
	most := 0
	for range 3000 {
		v := c.value(4)
		pointers, values := walked(v)
		most = max(most, len(values))
		l := All(v)
		if !slices.Equal(l, pointers) || len(l) != value.Size(v) {
			t.Fatalf("All(%v) = %q; want %q", v, l, pointers)
		}
		for i, s := range l {
			if got, e := Find(v, s); e != api.OK || !same(got, values[i]) {
				t.Fatalf("Find of %v at %q = %v, %d; want %v", v, s, got, e, values[i])
			}
		}
		slices.Sort(l)
		if len(slices.Compact(l)) != len(values) {
			t.Fatalf("All(%v) tells a pointer twice", v)
		}
	}
	if most < 50 {
		t.Errorf("the greatest value had %d values only", most)
	}
}

// P7.5: what All does not tell is not found.
func TestFindFindsNoMore(t *testing.T) {
	c := chance(75)
	keys := []string{"", "a", "b", "0", "1", "2", "-", "00", "~", "/", "~1", "a/b", "é"}
	for range 500 {
		v := c.value(3)
		l := All(v)
		for _, s := range l {
			for _, key := range keys {
				at := s + Text(key)
				_, e := Find(v, at)
				if told := slices.Contains(l, at); told != (e == api.OK) || !told && e != api.ErrNone {
					t.Fatalf("Find of %v at %q: %d; All tells it: %t", v, at, e, told)
				}
			}
		}
	}
}

// P7.4, R1: as deep as values may be.
func TestAllDeep(t *testing.T) {
	v := null()
	for i := range api.MaxDepth {
		if i%2 == 0 {
			v = list(v)
		} else {
			v = object([]string{"a"}, v)
		}
	}
	l := All(v)
	if len(l) != api.MaxDepth+1 {
		t.Fatalf("All of MaxDepth levels = %d pointers", len(l))
	}
	whole := strings.Repeat("/a/0", api.MaxDepth/2)
	for i, s := range l {
		if s != whole[:2*i] {
			t.Fatalf("pointer %d = %s", i, cut(s))
		}
	}
}

// R3, R4: the list is the caller's own, and the same call answers the same.
func TestAllIsNew(t *testing.T) {
	v := read(t, `{"b":[1,2],"a":{}}`)
	first := All(v)
	kept := slices.Clone(first)
	for i := range first[:cap(first)] {
		first[:cap(first)][i] = "spoilt"
	}
	if second := All(v); !slices.Equal(second, kept) || !same(v, read(t, `{"b":[1,2],"a":{}}`)) {
		t.Errorf("All answered %q the second time, of %v", second, v)
	}
}

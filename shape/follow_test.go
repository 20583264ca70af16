package shape

import (
	"errors"
	"reflect"
	"regexp"
	"slices"
	"strconv"
	"strings"
	"testing"

	"caliper/api"
	"caliper/pointer"
	"caliper/rx"
	"caliper/uri"
	"caliper/value"
)

// chance gives numbers, the same ones in every run.
type chance uint64

func (c *chance) below(n int) int {
	*c = *c*6364136223846793005 + 1442695040888963407
	return int(uint64(*c>>33) % uint64(n))
}

// tableKeys are all keys of the table, and some that are none of it.
func tableKeys() []string {
	var all []string
	for _, row := range keyRows() {
		all = append(all, strings.Fields(row.keys)...)
	}
	return all
}

// maker makes values that are schemas, or nearly so.
type maker struct {
	*chance
	keys  []string
	given []api.Value
	takes map[string][]api.Value
}

func newMaker(t *testing.T, seed int) *maker {
	c := chance(seed)
	m := &maker{chance: &c, keys: tableKeys(), takes: map[string][]api.Value{}}
	for _, s := range samples() {
		m.given = append(m.given, read(t, s))
	}
	for _, row := range keyRows() {
		for _, key := range strings.Fields(row.keys) {
			for _, s := range row.takes {
				m.takes[key] = append(m.takes[key], read(t, s))
			}
		}
	}
	return m
}

// schema makes a value in a schema's place; one in so many members is wrong.
func (m *maker) schema(levels int, oneIn int) api.Value {
	switch {
	case m.below(oneIn) == 0:
		return m.given[m.below(len(m.given))]
	case levels == 0 || m.below(5) == 0:
		return api.Value{Kind: api.False + api.Kind(m.below(2))}
	}
	v := api.Value{Kind: api.Object}
	for range m.below(6) {
		key := m.keys[m.below(len(m.keys))]
		if !slices.Contains(v.Keys, key) {
			v.Keys = append(v.Keys, key)
			v.List = append(v.List, m.member(key, levels-1, oneIn))
		}
	}
	return v
}

func (m *maker) member(key string, levels int, oneIn int) api.Value {
	switch {
	case m.below(oneIn) > 0:
	case key == "$vocabulary":
		return api.Value{Kind: api.Object, Keys: []string{"x:/b", "x:/a"}, List: []api.Value{{Kind: api.False}, {Kind: api.True}}}
	default:
		return m.given[m.below(len(m.given))]
	}
	switch placeKind(key) {
	case oneOf:
		return m.schema(levels, oneIn)
	case rowOf:
		v := api.Value{Kind: api.Array}
		for range 1 + m.below(3) {
			v.List = append(v.List, m.schema(levels, oneIn))
		}
		return v
	case mapOf:
		v := api.Value{Kind: api.Object}
		for i, name := range []string{"b", "a/~", "", "^c$", "type", "not"} {
			if m.below(3) == 0 {
				v.Keys, v.List = append(v.Keys, name), append(v.List, m.schema(levels, oneIn))
			}
			if m.below(oneIn) == 0 {
				v.Keys, v.List = append(v.Keys, "("+strings.Repeat("(", i)), append(v.List, m.schema(levels, oneIn))
			}
		}
		return v
	}
	return m.takes[key][m.below(len(m.takes[key]))]
}

// How schemas stand in members.
const (
	noneOf = 0
	oneOf  = 1
	rowOf  = 2
	mapOf  = 3
)

func placeKind(key string) int {
	for i, keys := range []string{
		" additionalProperties contains contentSchema else if items not propertyNames then unevaluatedItems unevaluatedProperties ",
		" allOf anyOf oneOf prefixItems ",
		" $defs dependentSchemas patternProperties properties ",
	} {
		if strings.Contains(keys, " "+key+" ") {
			return i + 1
		}
	}
	return noneOf
}

// What stands at a pointer.
const (
	isOther  = 0
	isSchema = 1
	isMember = 2
	isBoth   = 3
	isList   = 4
)

// standing is what stands at the end of a way of parts, and, if it is a member of a schema, its key.
func standing(parts []string) (int, string) {
	what, key := isSchema, ""
	for _, part := range parts {
		switch what {
		case isSchema, isBoth:
			what, key = []int{isMember, isBoth, isList, isList}[placeKind(part)], part
		case isList:
			what = isSchema
		default:
			what = isOther
		}
	}
	return what, key
}

// plainCheck says as the chapter does, place by place in pointer's order, what comes first.
func plainCheck(t *testing.T, v api.Value) wrong {
	for _, at := range pointer.All(v) {
		parts, _ := pointer.Parse(at)
		in, e := pointer.Find(v, at)
		if e != api.OK {
			t.Fatal(at, e)
		}
		what, key := standing(parts)
		if (what == isSchema || what == isBoth) && in.Kind != api.Object && in.Kind != api.True && in.Kind != api.False {
			return wrong{at, api.ErrShape}
		}
		if what == isMember || what == isList {
			if w := plainForm(key, in); w.code != api.OK {
				return wrong{at + w.at, w.code}
			}
		}
	}
	return wrong{}
}

// plainForm is what is wrong with a member by itself; it takes a value's canonical text where that says enough.
func plainForm(key string, v api.Value) wrong {
	s, _ := value.Text(v)
	ok := true
	switch key {
	case "allOf", "anyOf", "oneOf", "prefixItems":
		ok = s[0] == '[' && s != "[]"
	case "$defs", "dependentSchemas", "properties":
		ok = s[0] == '{'
	case "patternProperties":
		ok = s[0] == '{'
		for _, k := range v.Keys {
			if _, e := rx.Parse(k); e != api.OK {
				return wrong{"/" + escaped(k), api.ErrRx}
			}
		}
	case "$id", "$ref", "$dynamicRef":
		_, e := uri.Parse(v.Text)
		_, fragment := uri.Bare(v.Text)
		ok = s[0] == '"' && e == api.OK && (key != "$id" || fragment == "")
	case "$schema":
		ok = s[0] == '"' && uri.Absolute(v.Text)
	case "$anchor", "$dynamicAnchor":
		ok = regexp.MustCompile(`^"[a-zA-Z_][a-zA-Z0-9_.-]*"$`).MatchString(s)
	case "$vocabulary":
		return plainVocabulary(v)
	case "$comment", "contentEncoding", "contentMediaType", "description", "format", "title":
		ok = s[0] == '"'
	case "deprecated", "readOnly", "uniqueItems", "writeOnly":
		ok = s == "true" || s == "false"
	case "enum", "examples":
		ok = s[0] == '['
	case "type":
		const one = `"(array|boolean|integer|null|number|object|string)"`
		ok = regexp.MustCompile(`^(`+one+`|\[`+one+`(,`+one+`)*\])$`).MatchString(s) && allUnlike(v.List)
	case "exclusiveMaximum", "exclusiveMinimum", "maximum", "minimum":
		ok = v.Kind == api.Number
	case "multipleOf":
		ok = regexp.MustCompile(`^[1-9]`).MatchString(s)
	case "maxContains", "maxItems", "maxLength", "maxProperties", "minContains", "minItems", "minLength", "minProperties":
		ok = regexp.MustCompile(`^[0-9]+(e[0-9]+)?$`).MatchString(s)
	case "pattern":
		if _, e := rx.Parse(v.Text); v.Kind == api.String && e != api.OK {
			return wrong{"", api.ErrRx}
		}
		ok = s[0] == '"'
	case "required":
		ok = plainNames(v)
	case "dependentRequired":
		ok = s[0] == '{'
		for _, in := range v.List {
			ok = ok && plainNames(in)
		}
	}
	if !ok {
		return shapeAt("")
	}
	return wrong{}
}

func plainNames(v api.Value) bool {
	for _, in := range v.List {
		if in.Kind != api.String {
			return false
		}
	}
	return v.Kind == api.Array && allUnlike(v.List)
}

func allUnlike(l []api.Value) bool {
	for i := range l {
		for j := range i {
			if l[i].Text == l[j].Text {
				return false
			}
		}
	}
	return true
}

func plainVocabulary(v api.Value) wrong {
	code := api.OK
	for i, k := range v.Keys {
		if !uri.Absolute(k) || v.List[i].Kind != api.True && v.List[i].Kind != api.False {
			return shapeAt("")
		}
		if v.List[i].Kind == api.True && !regexp.MustCompile(`^https://json-schema\.org/draft/2020-12/vocab/(applicator|content|core|format-annotation|meta-data|unevaluated|validation)$`).MatchString(k) {
			code = api.ErrVocab
		}
	}
	if v.Kind != api.Object {
		return shapeAt("")
	}
	return wrong{"", code}
}

// P12.1, P12.2: Check against a reading of the chapter that asks place by place, on random values.
func TestPlainly(t *testing.T) {
	told := map[api.Errno]int{}
	for _, oneIn := range []int{4, 10, 30, 100} {
		m := newMaker(t, oneIn)
		for range 2500 {
			v := m.schema(5, oneIn)
			want := plainCheck(t, v)
			if at, e := Check(v); at != want.at || e != want.code {
				s, _ := value.Text(v)
				t.Errorf("Check(%s): %q, %d, not %q, %d", s, at, e, want.at, want.code)
			}
			told[want.code]++
		}
	}
	for _, code := range []api.Errno{api.OK, api.ErrShape, api.ErrRx, api.ErrVocab} {
		if told[code] < 5 {
			t.Errorf("%d only %d times", code, told[code])
		}
	}
}

// P12.4: a schema's Subs are schemas; so are all that are deeper.
func TestSubsAreSchemas(t *testing.T) {
	m := newMaker(t, 7)
	found := 0
	for range 4000 {
		v := m.schema(5, 60)
		if _, e := Check(v); e != api.OK {
			continue
		}
		for _, at := range Subs(v) {
			sub, e := pointer.Find(v, at)
			if e != api.OK {
				t.Fatal(at, e)
			}
			if in, e := Check(sub); in != "" || e != api.OK {
				t.Errorf("%s: %q, %d", at, in, e)
			}
			found++
		}
	}
	if found < 1000 {
		t.Error(found)
	}
}

// P12.2, P12.3: what is wrong with a Sub is told of the schema, at the Sub's pointer, if nothing stands ahead.
func TestWrongSubs(t *testing.T) {
	m := newMaker(t, 11)
	for range 2000 {
		v := m.schema(4, 1<<30)
		l := Subs(v)
		if len(l) == 0 {
			continue
		}
		at := l[m.below(len(l))]
		spoilt := put(t, v, at, read(t, `{"$comment":"","not":{"type":[]}}`))
		if got, e := Check(spoilt); got != at+"/not/type" || e != api.ErrShape {
			t.Errorf("%s: %q, %d", at, got, e)
		}
		if !slices.Equal(Subs(spoilt), l) {
			t.Errorf("%s: %q, not %q", at, Subs(spoilt), l)
		}
	}
}

// put is a value in which another one stands at a pointer.
func put(t *testing.T, v api.Value, at string, in api.Value) api.Value {
	t.Helper()
	parts, e := pointer.Parse(at)
	if e != api.OK {
		t.Fatal(at, e)
	}
	if len(parts) == 0 {
		return in
	}
	v.List = slices.Clone(v.List)
	for i := range v.List {
		if v.Kind == api.Object && v.Keys[i] == parts[0] || v.Kind == api.Array && strconv.Itoa(i) == parts[0] {
			v.List[i] = put(t, v.List[i], pointer.Text(parts[1:]...), in)
		}
	}
	return v
}

// P12.4: with a key more that is none of the table's, whatever it holds and wherever it stands, a schema is one, and what is none is none for the same reason; the Subs stay.
func TestKeysMore(t *testing.T) {
	m := newMaker(t, 13)
	for range 3000 {
		v := m.schema(4, 20)
		if v.Kind != api.Object {
			continue
		}
		at, e := Check(v)
		for _, key := range []string{"const", "default", "x", "", "$", "NOT", "schema", "$refs", "patternproperties", "~", "(", "é"} {
			if slices.Contains(v.Keys, key) {
				continue
			}
			i := m.below(len(v.Keys) + 1)
			more := v
			more.Keys = slices.Insert(slices.Clone(v.Keys), i, key)
			more.List = slices.Insert(slices.Clone(v.List), i, m.given[m.below(len(m.given))])
			if at2, e2 := Check(more); at2 != at || e2 != e {
				t.Errorf("with %q: %q, %d, not %q, %d", key, at2, e2, at, e)
			}
			if !slices.Equal(Subs(more), Subs(v)) {
				t.Errorf("with %q: %q, not %q", key, Subs(more), Subs(v))
			}
		}
	}
}

// twin is a value that shares no lists with another one.
func twin(v api.Value) api.Value {
	v.Keys = slices.Clone(v.Keys)
	v.List = slices.Clone(v.List)
	for i := range v.List {
		v.List[i] = twin(v.List[i])
	}
	return v
}

// R3, R8: what is handed in is not changed, answers are the caller's own, and the same call answers the same.
func TestMemory(t *testing.T) {
	m := newMaker(t, 17)
	for range 2000 {
		v := m.schema(4, 15)
		kept := twin(v)
		at, e := Check(v)
		l := Subs(v)
		Count(v)
		if !reflect.DeepEqual(v, kept) {
			t.Fatalf("%v was changed", kept)
		}
		mine := slices.Clone(l)
		for i := range l {
			l[i] = "changed"
		}
		if l2 := Subs(v); !slices.Equal(l2, mine) {
			t.Fatalf("%q, then %q", mine, l2)
		}
		if at2, e2 := Check(v); at2 != at || e2 != e {
			t.Fatalf("%q, %d, then %q, %d", at, e, at2, e2)
		}
	}
}

// Of a list its length alone counts (R7): what stands behind its end is not asked, and nil is as good as empty.
func TestRoomBehind(t *testing.T) {
	v := read(t, `{"allOf":[true,1],"not":1}`)
	v.Keys, v.List = v.Keys[:1], v.List[:1]
	v.List[0].List = v.List[0].List[:1]
	if at, e := Check(v); at != "" || e != api.OK {
		t.Error(at, e)
	}
	if l := Subs(v); !slices.Equal(l, []string{"/allOf/0"}) {
		t.Error(l)
	}
	for _, v := range []api.Value{{Kind: api.Object}, {Kind: api.Object, List: []api.Value{}, Keys: []string{}}} {
		if at, e := Check(v); at != "" || e != api.OK || len(Subs(v)) > 0 {
			t.Error(at, e)
		}
	}
}

// What is wrong is an error that errors.As finds, with its pointer; all is well without one.
func TestWrongIsAnError(t *testing.T) {
	if err := told(api.OK, []string{"a"}); err != nil {
		t.Error(err)
	}
	err := errors.Join(errors.New("first"), told(api.ErrRx, []string{"a/b", "0"}))
	var found wrong
	if !errors.As(err, &found) || found != rxAt("/a~1b/0") {
		t.Error(found)
	}
	if found.Error() != `shape: error 90 at "/a~1b/0"` {
		t.Error(found.Error())
	}
}

package pointer

import (
	"slices"
	"strconv"
	"strings"
	"testing"

	"caliper/api"
	"caliper/value"
)

// finds asks for the value of a text at a pointer.
func finds(t *testing.T, v api.Value, s string, want api.Value) {
	t.Helper()
	if got, e := Find(v, s); e != api.OK || !same(got, want) {
		t.Errorf("Find at %s = %v, %d; want %v", cut(s), got, e, want)
	}
}

func findsNone(t *testing.T, v api.Value, s string) {
	t.Helper()
	if got, e := Find(v, s); e != api.ErrNone || !none(got) {
		t.Errorf("Find at %s = %v, %d; want none, %d", cut(s), got, e, api.ErrNone)
	}
}

// P7.2: arrays and objects in each other.
func TestFind(t *testing.T) {
	v := read(t, `{"a":[1,{"b":[true,[null,"x"]],"":2}],"":{"":{"":3}},"a/b":4,"~":5,"~1":6,"/":7,"0":8,"00":9,"-":10,"-1":11,"é":12,"%25":13,"%":14," ":15,"A":16,"~01":17,"~0":18,"1e0":19,"b":null}`)
	cases := map[string]string{
		"/a": `[1,{"b":[true,[null,"x"]],"":2}]`, "/a/0": "1", "/a/1": `{"b":[true,[null,"x"]],"":2}`, "/a/1/": "2", "/a/1/b": `[true,[null,"x"]]`,
		"/a/1/b/0": "true", "/a/1/b/1": `[null,"x"]`, "/a/1/b/1/0": "null", "/a/1/b/1/1": `"x"`,
		"/": `{"":{"":3}}`, "//": `{"":3}`, "///": "3",
		"/a~1b": "4", "/~0": "5", "/~01": "6", "/~1": "7", "/0": "8", "/00": "9", "/-": "10", "/-1": "11", "/é": "12", "/%25": "13", "/%": "14", "/ ": "15", "/A": "16", "/~001": "17", "/~00": "18", "/1e0": "19", "/b": "null",
	}
	for s, want := range cases {
		finds(t, v, s, read(t, want))
	}
	finds(t, v, "", v)
	for _, s := range []string{
		"/c", "/aa", "/a/2", "/a/-", "/a/b", "/a/", "/a/1/c", "/a/1/0", "/a/0/", "/a/0/0", "/a/1/b/1/2", "/a/1/b/1/1/0", "////", "///0", "/b/", "/b/0", "/b/b",
		"/e\u0301", "/\xc3", "/1", "/~0~0", "/é/0", "/a/1/b/1/0/0", "/a~1b/0", "/a/1/b/1/1/", "/c/c/c/c",
	} {
		findsNone(t, v, s)
	}
}

// P7.2: of a value that is neither an array nor an object there is nothing but itself.
func TestFindInPlainValues(t *testing.T) {
	for _, text := range []string{"null", "false", "true", "0", "5", "-1e9", `""`, `"a"`, `"[1,2]"`, `"{\"a\":1}"`, "[]", "{}"} {
		v := read(t, text)
		finds(t, v, "", v)
		for _, s := range []string{"/", "/0", "/1", "/a", "/-", "//", "/0/0", "/length", "/00"} {
			findsNone(t, v, s)
		}
	}
}

// P7.2: numbers at the length, and at lengths at which they get a digit more.
func TestFindByNumber(t *testing.T) {
	for _, n := range []int{0, 1, 2, 9, 10, 11, 99, 100, 101, 1000, 1001} {
		v := list()
		for i := range n {
			v.List = append(v.List, num(strconv.Itoa(i)))
		}
		for i := range n + 200 {
			s := "/" + strconv.Itoa(i)
			if i < n {
				finds(t, v, s, num(strconv.Itoa(i)))
			} else {
				findsNone(t, v, s)
			}
			findsNone(t, v, "/0"+strconv.Itoa(i))
			findsNone(t, v, "/-"+strconv.Itoa(i))
			findsNone(t, v, "/+"+strconv.Itoa(i))
		}
	}
}

// P7.2: what is no number of an array, though it looks like one.
func TestFindByWrongNumber(t *testing.T) {
	v := list()
	for i := range 20 {
		v.List = append(v.List, num(strconv.Itoa(i)))
	}
	wrong := []string{
		"", "-", "00", "01", "000", "001", "010", "-0", "-1", "+0", "+1", " 0", "0 ", " ", "1 ", " 1", "0.0", "1.0", "1.", ".1", "1e0", "1e1", "1E0", "0x1", "0x", "0b1", "0o1", "1_0", "a", "1a", "a1", "0a", "f",
		"20", "21", "99", "100", "1000000", "２", "٣", "1\x00", "\x000", "\xff", "1\n", "/", ":", "1/", "1:", "~1", "1~1",
		"2147483648", "4294967296", "4294967297", "9223372036854775807", "9223372036854775808", "18446744073709551615", "18446744073709551616", "18446744073709551617", "36893488147419103233",
		"340282366920938463463374607431768211456", "340282366920938463463374607431768211457",
		"1" + strings.Repeat("0", 100), strings.Repeat("9", 100000), "1" + strings.Repeat("0", 64) + "x", strings.Repeat("0", 100000), strings.Repeat("0", 1000) + "1",
	}
	for bits := range 130 {
		if s := pastPower(bits); len(s) > 2 {
			wrong = append(wrong, s)
		}
	}
	for _, part := range wrong {
		findsNone(t, v, Text(part))
		findsNone(t, list(v), "/0"+Text(part))
		findsNone(t, object([]string{"a"}, v), "/a"+Text(part))
		// As a key it is one like any other.
		finds(t, object([]string{"x", part}, null(), v), Text(part), v)
		finds(t, object([]string{"x", part}, null(), v), Text(part, "7"), num("7"))
	}
}

// P7.2: every byte in a number's place. The array is so long that a byte next to the digits, taken for one, would lead somewhere.
func TestFindByBytes(t *testing.T) {
	v := list()
	for i := range 3000 {
		v.List = append(v.List, num(strconv.Itoa(i)))
	}
	for c := range 0x100 {
		s := string([]byte{byte(c)})
		if c >= '0' && c <= '9' {
			finds(t, v, "/"+s, num(s))
			finds(t, v, "/1"+s, num("1"+s))
			continue
		}
		for _, part := range []string{s, "1" + s, s + "1", "0" + s, s + "0", "1" + s + "1", s + s} {
			findsNone(t, v, Text(part))
		}
	}
}

// pastPower is one more than two to a power: what wraps round would take it for a small number.
func pastPower(power int) string {
	digits := []byte{1}
	for range power {
		carry := byte(0)
		for i := range digits {
			d := 2*digits[i] + carry
			digits[i], carry = d%10, d/10
		}
		if carry > 0 {
			digits = append(digits, carry)
		}
	}
	digits[0]++ // no power of two ends with 9, so nothing is carried
	for i := range digits {
		digits[i] += '0'
	}
	slices.Reverse(digits)
	return string(digits)
}

// P7.2: of keys just the one that is the part, byte by byte, wherever it stands.
func TestFindByKey(t *testing.T) {
	keys := rowsOf("/~0a", 3)
	v := api.Value{Kind: api.Object}
	for i, key := range keys {
		v.Keys, v.List = append(v.Keys, key), append(v.List, num(strconv.Itoa(i)))
	}
	for i, key := range keys {
		finds(t, v, Text(key), num(strconv.Itoa(i)))
		findsNone(t, v, Text(key, ""))
		findsNone(t, v, Text(key+"1"))
		findsNone(t, v, Text("A"+key))
		less := object(slices.Delete(slices.Clone(keys), i, i+1), slices.Delete(slices.Clone(v.List), i, i+1)...)
		findsNone(t, less, Text(key))
	}
}

// P7.2: a pointer is read whole ahead of anything that is looked for.
func TestFindRefusesFirst(t *testing.T) {
	for _, s := range []string{"/none/~", "/0/0/0/~2", "/a/b/~x", "none/0", "/none~"} {
		for _, v := range []api.Value{null(), text("a"), list(), list(null()), object([]string{"a"}, null()), object([]string{"none/0"}, null())} {
			if got, e := Find(v, s); e != api.ErrPointer || !none(got) {
				t.Errorf("Find of %v at %q = %v, %d; want %d", v, s, got, e, api.ErrPointer)
			}
		}
	}
}

// P7.2, R1: as deep as values may be.
func TestFindDeep(t *testing.T) {
	v, s := text("inner"), ""
	for i := range api.MaxDepth {
		if i%2 == 0 {
			v, s = list(null(), v), "/1"+s
		} else {
			v, s = object([]string{"b", "a/"}, null(), v), "/a~1"+s
		}
	}
	if e := value.Check(v); e != api.OK {
		t.Fatal(e)
	}
	finds(t, v, s, text("inner"))
	findsNone(t, v, s+"/0")
	findsNone(t, v, s[:len(s)-1]+"2")
	finds(t, v, "", v)
	if got, e := Find(v, s[:len(s)-2]); e != api.OK || !same(got, list(null(), text("inner"))) {
		t.Errorf("Find one level above the innermost = %v, %d", got, e)
	}
}

// spoil writes over all lists of a value, and over the room behind their ends.
func spoil(v api.Value) {
	for i := range v.List {
		spoil(v.List[i])
	}
	keys, all := v.Keys[:cap(v.Keys)], v.List[:cap(v.List)]
	for i := range keys {
		keys[i] = "spoilt"
	}
	for i := range all {
		all[i] = text("spoilt")
	}
}

// R3: what is found is the caller's own, down to the innermost list, and what is handed in stays.
func TestFoundIsNew(t *testing.T) {
	const s = `{"a":[{"c":[1,[2]],"b":{"z":0,"y":{"x":[]}}},[3]],"":{"k":"v"}}`
	v, kept := read(t, s), read(t, s)
	for _, at := range []string{"", "/a", "/a/0", "/a/0/c", "/a/0/c/1", "/a/0/b", "/a/0/b/y", "/a/1", "/"} {
		got, e := Find(v, at)
		if e != api.OK {
			t.Fatalf("Find at %q: %d", at, e)
		}
		spoil(got)
		if !same(v, kept) {
			t.Fatalf("what was found at %q shares memory with the value: %v", at, v)
		}
		All(v)
		if !same(v, kept) {
			t.Fatalf("All changed %v to %v", kept, v)
		}
	}
	shared := []api.Value{num("1")}
	got, _ := Find(list(list(api.Value{Kind: api.Array, List: shared}, api.Value{Kind: api.Array, List: shared})), "/0")
	got.List[0].List[0] = text("spoilt")
	if !same(got.List[1], list(num("1"))) || !same(shared[0], num("1")) {
		t.Errorf("two lists of one answer share memory: %v", got)
	}
}

// R1: values that may not be lead to no panic: keys without values, values without keys, kinds that are none.
func TestWrongValues(t *testing.T) {
	for _, v := range []api.Value{
		{Kind: api.Object, Keys: []string{"a", "b"}},
		{Kind: api.Object, Keys: []string{"a", "b"}, List: []api.Value{null()}},
		{Kind: api.Object, Keys: []string{"a"}, List: []api.Value{null(), null()}},
		{Kind: api.Object, List: []api.Value{null(), null()}},
		{Kind: api.Array, Keys: []string{"a"}},
		{Kind: 7, List: []api.Value{null()}, Keys: []string{"a"}},
		{Kind: -1, List: []api.Value{null()}},
		{Kind: api.String, List: []api.Value{null()}, Keys: []string{"a"}},
	} {
		for _, s := range []string{"", "/a", "/b", "/0", "/1", "/"} {
			Find(v, s)
		}
		for _, s := range All(v) {
			if _, e := Find(v, s); e != api.OK {
				t.Errorf("Find of %v at %q: %d", v, s, e)
			}
		}
	}
}

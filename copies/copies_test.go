package copies

import (
	"reflect"
	"testing"

	"caliper/api"
)

// deep is values with lists of all kinds, down to the third level.
func deep() []api.Value {
	return []api.Value{
		{Kind: api.Object, Keys: []string{"b", "a"}, List: []api.Value{
			{Kind: api.Array, List: []api.Value{{Kind: api.String, Text: "c"}, {Kind: api.Number, Num: api.Dec{Digits: "1"}}}},
			{Kind: api.Object, Keys: []string{"d"}, List: []api.Value{{Kind: api.True}}},
		}},
		{},
	}
}

func TestRow(t *testing.T) {
	row := []int{1, 2, 3}
	got := Row(row)
	row[0] = 9
	if !reflect.DeepEqual(got, []int{1, 2, 3}) {
		t.Error(got)
	}
	got = Row(row[:2])
	if len(got) != 2 || got[0] != 9 || &got[0] == &row[0] {
		t.Error(got)
	}
	got = append(got, 7)
	if got[0] = 8; !reflect.DeepEqual(row, []int{9, 2, 3}) {
		t.Error("changed:", row)
	}
}

// An empty row has no room either, not even that behind the end of the one copied.
func TestEmptyRow(t *testing.T) {
	for _, row := range [][]string{nil, {}, make([]string, 0, 5), []string{"a"}[:0]} {
		if got := Row(row); got != nil {
			t.Error(got, cap(got))
		}
	}
	if got := Values(nil); got != nil {
		t.Error(got)
	}
	if got := Rule(api.Rule{Kind: api.RuUnique, Subs: []int{}}); !reflect.DeepEqual(got, api.Rule{Kind: api.RuUnique}) {
		t.Error(got)
	}
}

func TestValues(t *testing.T) {
	before := deep()
	got := Values(before)
	if !reflect.DeepEqual(got, deep()) {
		t.Error(got)
	}
	got[0].Keys[1], got[0].List[0].List[0].Text, got[0].List[1].Keys[0], got[0].List[1].List[0].Kind = "x", "x", "x", api.Null
	got[1].Kind = api.False
	if !reflect.DeepEqual(before, deep()) {
		t.Error("changed:", before)
	}
}

func TestRule(t *testing.T) {
	made := func() api.Rule {
		return api.Rule{Kind: api.RuRest, N: 1, M: -1, Num: api.Dec{Digits: "5"}, Vals: deep(), Names: []string{"n"}, Pats: []string{"p"}, Subs: []int{4}}
	}
	before := made()
	got := Rule(before)
	if !reflect.DeepEqual(got, made()) {
		t.Error(got)
	}
	got.Vals[0].List[0].List[1].Num.Digits, got.Names[0], got.Pats[0], got.Subs[0] = "x", "x", "x", 9
	if !reflect.DeepEqual(before, made()) {
		t.Error("changed:", before)
	}
}

package scope

import (
	"math"
	"slices"
	"testing"

	"caliper/api"
)

// dyn is a dynamic anchor.
func dyn(name string, resource, form int) api.Dyn {
	return api.Dyn{Name: name, Resource: resource, Form: form}
}

// with is a program of some yes forms with these dynamic anchors.
func with(dyns ...api.Dyn) api.Prog {
	return api.Prog{Forms: make([]api.Form, 10), Dyns: dyns}
}

// three is a program whose names are b, a and the empty one, in this order.
func three() api.Prog {
	return with(dyn("b", 2, 5), dyn("a", 2, 6), dyn("b", 4, 7), dyn("", 4, 8), dyn("a", 4, 9), dyn("b", 0, 1))
}

// P18.1: each name once, in the order in which they come first.
func TestNames(t *testing.T) {
	for _, sample := range []struct {
		p    api.Prog
		want []string
	}{
		{api.Prog{}, nil},
		{with(), nil},
		{api.Prog{Forms: make([]api.Form, 1), Dyns: []api.Dyn{}}, nil},
		{with(dyn("n", 0, 0)), []string{"n"}},
		{with(dyn("", 3, 1)), []string{""}},
		{with(dyn("n", 0, 0), dyn("n", 1, 1), dyn("n", 2, 0)), []string{"n"}},
		{with(dyn("b", 0, 0), dyn("a", 0, 1)), []string{"b", "a"}},
		{with(dyn("b", 0, 0), dyn("a", 0, 1), dyn("b", 1, 1), dyn("c", 1, 1), dyn("a", 2, 1)), []string{"b", "a", "c"}},
		{with(dyn("a", 0, 0), dyn("A", 0, 0), dyn("é", 0, 0), dyn("a\x00", 0, 0)), []string{"a", "A", "é", "a\x00"}},
		{three(), []string{"b", "a", ""}},
		{api.Prog{Root: -9, Dyns: []api.Dyn{dyn("x", -1, 99), dyn("x", -1, 98), dyn("\xff", 7, 0), dyn("\xfe", 7, 0)}}, []string{"x", "\xff", "\xfe"}},
	} {
		if got := Names(sample.p); !slices.Equal(got, sample.want) {
			t.Errorf("%q, not %q", got, sample.want)
		}
	}
}

// P18.1: each -1 whose name has a Dyn in the Resource is its Form; all else stays.
func TestEnter(t *testing.T) {
	for _, sample := range []struct {
		p        api.Prog
		scope    []int
		resource int
		want     []int
	}{
		{with(), nil, 0, nil},
		{with(), []int{}, 3, nil},
		{api.Prog{}, nil, 0, nil},
		{with(dyn("n", 1, 4)), []int{-1}, 1, []int{4}},
		{with(dyn("n", 1, 4)), []int{-1}, 0, []int{-1}},
		{with(dyn("n", 1, 4)), []int{-1}, 4, []int{-1}},
		{with(dyn("n", 1, 0)), []int{-1}, 1, []int{0}},
		{with(dyn("n", 1, 4)), []int{0}, 1, []int{0}},
		{with(dyn("n", 1, 4), dyn("n", 2, 5)), []int{-1}, 2, []int{5}},
		{with(dyn("n", 1, 4), dyn("n", 2, 5)), []int{4}, 2, []int{4}},
		{three(), []int{-1, -1, -1}, 2, []int{5, 6, -1}},
		{three(), []int{-1, -1, -1}, 4, []int{7, 9, 8}},
		{three(), []int{-1, -1, -1}, 0, []int{1, -1, -1}},
		{three(), []int{-1, -1, -1}, 1, []int{-1, -1, -1}},
		{three(), []int{5, 6, -1}, 4, []int{5, 6, 8}},
		{three(), []int{-1, 6, -1}, 4, []int{7, 6, 8}},
		{three(), []int{-1, -1, 0}, 2, []int{5, 6, 0}},
		{three(), []int{5, 6, 8}, 4, []int{5, 6, 8}},
		{three(), []int{5, 6, 8}, 0, []int{5, 6, 8}},
		// A Resource that is no form's number.
		{three(), []int{-1, -1, -1}, 10, []int{-1, -1, -1}},
		{three(), []int{-1, -1, -1}, -1, []int{-1, -1, -1}},
		{three(), []int{-1, 3, -1}, math.MinInt, []int{-1, 3, -1}},
		{three(), []int{-1, 3, -1}, math.MaxInt, []int{-1, 3, -1}},
		// Numbers that are neither -1 nor forms' stay, too.
		{three(), []int{-2, 99, -1}, 4, []int{-2, 99, 8}},
		{three(), []int{math.MinInt, math.MaxInt, -1}, 4, []int{math.MinInt, math.MaxInt, 8}},
		// Fewer or more numbers than names.
		{three(), nil, 4, nil},
		{three(), []int{-1}, 4, []int{-1}},
		{three(), []int{-1, -1}, 4, []int{-1, -1}},
		{three(), []int{-1, -1, -1, -1}, 4, []int{-1, -1, -1, -1}},
		{three(), []int{7, -1, -1, -1, -1, -1}, 4, []int{7, -1, -1, -1, -1, -1}},
		{with(), []int{-1}, 0, []int{-1}},
	} {
		if got := Enter(sample.p, sample.scope, sample.resource); !slices.Equal(got, sample.want) {
			t.Errorf("%v, not %v, of %d entered in %v", got, sample.want, sample.resource, sample.scope)
		}
	}
}

// P18.1: of several Dyns of one name in one Resource, which no program that may be has, the first is meant.
func TestEnterFirst(t *testing.T) {
	p := with(dyn("a", 0, 9), dyn("n", 1, 4), dyn("n", 1, 5), dyn("a", 1, -1), dyn("a", 1, 6), dyn("n", -7, 3), dyn("n", 44, 2))
	for _, sample := range []struct {
		resource int
		want     []int
	}{{1, []int{-1, 4}}, {0, []int{9, -1}}, {-7, []int{-1, 3}}, {44, []int{-1, 2}}} {
		if got := Enter(p, []int{-1, -1}, sample.resource); !slices.Equal(got, sample.want) {
			t.Error(sample.resource, got)
		}
	}
}

// P18.1, R3: Enter answers new memory, also of what stays as it is, and changes nothing.
func TestEnterIsNew(t *testing.T) {
	for _, sample := range [][]int{{-1, -1, -1}, {1, 2, 3}, {-1}, {-1, -1, -1, -1}} {
		for _, resource := range []int{4, 1} {
			p, scope := three(), slices.Clone(sample)
			got := Enter(p, scope, resource)
			again := slices.Clone(got)
			for i := range got[:cap(got)] {
				got[:cap(got)][i] = 77
			}
			if !slices.Equal(scope, sample) || !slices.Equal(p.Dyns, three().Dyns) {
				t.Error(sample, "was changed to", scope)
			}
			if got = Enter(p, scope, resource); !slices.Equal(got, again) {
				t.Error(got, "is not", again)
			}
		}
	}
	room := []int{-1, -1, -1, 55}
	if got := Enter(three(), room[:3], 4); !slices.Equal(got, []int{7, 9, 8}) || !slices.Equal(room, []int{-1, -1, -1, 55}) {
		t.Error(got, room)
	}
	if got := Enter(three(), room[:0], 4); len(got) != 0 || cap(got) != 0 {
		t.Error(got, cap(got))
	}
}

// P18.1: Bound is the scope's number of a name.
func TestBound(t *testing.T) {
	for _, sample := range []struct {
		p     api.Prog
		scope []int
		name  string
		want  int
	}{
		{api.Prog{}, nil, "", -1},
		{api.Prog{}, []int{3}, "", -1},
		{with(), nil, "n", -1},
		{with(), []int{5, 6}, "n", -1},
		{with(dyn("n", 0, 0)), []int{4}, "n", 4},
		{with(dyn("n", 0, 0)), []int{0}, "n", 0},
		{with(dyn("n", 0, 0)), []int{-1}, "n", -1},
		{with(dyn("n", 0, 0)), nil, "n", -1},
		{with(dyn("n", 0, 0)), []int{4}, "m", -1},
		{with(dyn("n", 0, 0)), []int{4}, "", -1},
		{with(dyn("n", 0, 0)), []int{4}, "N", -1},
		{three(), []int{5, 6, 7}, "b", 5},
		{three(), []int{5, 6, 7}, "a", 6},
		{three(), []int{5, 6, 7}, "", 7},
		{three(), []int{5, 6, 7}, "c", -1},
		{three(), []int{5, -1, 7}, "a", -1},
		// A scope that has no such place, or more places than names.
		{three(), []int{5, 6}, "", -1},
		{three(), []int{5, 6}, "a", 6},
		{three(), []int{5}, "a", -1},
		{three(), []int{5}, "b", 5},
		{three(), nil, "b", -1},
		{three(), []int{5, 6, 7, 8}, "", 7},
		{three(), []int{5, 6, 7, 8}, "c", -1},
		// Any number is told as it stands.
		{three(), []int{-2, 99, math.MinInt}, "b", -2},
		{three(), []int{-2, 99, math.MinInt}, "a", 99},
		{three(), []int{-2, 99, math.MinInt}, "", math.MinInt},
		{api.Prog{Root: 7, Dyns: []api.Dyn{dyn("\xff", -3, -3), dyn("\xff", -3, 1), dyn("x", 0, 0)}}, []int{4, 6}, "x", 6},
	} {
		if got := Bound(sample.p, sample.scope, sample.name); got != sample.want {
			t.Errorf("%d, not %d, of %q in %v", got, sample.want, sample.name, sample.scope)
		}
	}
}

// P18.1: what is behind a scope's end is nobody's.
func TestBoundRoomBehind(t *testing.T) {
	room := []int{5, 6, 7}
	if got := Bound(three(), room[:1], "a"); got != -1 {
		t.Error(got)
	}
}

// P18.1: outermost is what was entered first, and what is bound stays bound.
func TestOutermost(t *testing.T) {
	p := three()
	scope := []int{-1, -1, -1}
	for _, step := range []struct {
		resource int
		b, a, no int
	}{{1, -1, -1, -1}, {0, 1, -1, -1}, {2, 1, 6, -1}, {4, 1, 6, 8}, {0, 1, 6, 8}, {2, 1, 6, 8}} {
		scope = Enter(p, scope, step.resource)
		if b, a, no := Bound(p, scope, "b"), Bound(p, scope, "a"), Bound(p, scope, ""); b != step.b || a != step.a || no != step.no {
			t.Error(step, b, a, no)
		}
	}
}

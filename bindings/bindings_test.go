package bindings

import (
	"slices"
	"strconv"
	"testing"

	"caliper/api"
)

func dyn(name string, resource, form int) api.Dyn {
	return api.Dyn{Name: name, Resource: resource, Form: form}
}

// bound asks for the forms that a scope has for some names.
func bound(t *testing.T, s *Scopes, scope int, names string, want ...int) {
	t.Helper()
	for i, name := range names {
		if got := s.Bound(scope, string(name)); got != want[i] {
			t.Errorf("%c is %d in scope %d, not %d", name, got, scope, want[i])
		}
	}
}

func TestPlaces(t *testing.T) {
	at := Places([]api.Dyn{dyn("b", 0, 0), dyn("", 0, 0), dyn("b", 1, 0), dyn("a", 0, 0)})
	if len(at) != 3 || at["b"] != 0 || at[""] != 1 || at["a"] != 2 || len(Places(nil)) != 0 {
		t.Error(at)
	}
}

// What a resource binds stays, and is bound only where its name is open.
func TestScopes(t *testing.T) {
	s := New([]api.Dyn{dyn("a", 1, 5), dyn("b", 2, 6), dyn("a", 2, 7), dyn("c", 3, 0)})
	bound(t, s, Open, "abcd", None, None, None, None)
	one := s.Enter(Open, 1)
	bound(t, s, one, "abcd", 5, None, None, None)
	two := s.Enter(one, 2)
	bound(t, s, two, "abcd", 5, 6, None, None)
	bound(t, s, s.Enter(Open, 2), "abcd", 7, 6, None, None)
	bound(t, s, s.Enter(two, 3), "abcd", 5, 6, 0, None)
	bound(t, s, one, "abcd", 5, None, None, None)
	for _, scope := range []int{Open, one, two} {
		for _, resource := range []int{0, 4, -1} {
			if got := s.Enter(scope, resource); got != scope {
				t.Error(scope, resource, got)
			}
		}
	}
	if s.Enter(two, 1) != two || s.Enter(two, 2) != two || s.Enter(one, 1) != one {
		t.Error("what is bound is bound anew")
	}
}

func TestNoNames(t *testing.T) {
	s := New(nil)
	if got := s.Enter(Open, 0); got != Open || s.Bound(got, "") != None {
		t.Error(got)
	}
}

// Scopes have one number, if and only if they have the same forms: by rows of numbers, in whatever order resources are entered.
func TestLikeScopes(t *testing.T) {
	for _, many := range []int{1, 2, 15, 16, 17, 256, 257, 300} {
		var dyns []api.Dyn
		for i := range 3 * many {
			dyns = append(dyns, dyn(strconv.Itoa(i%many), i*7%(many+3), i%2))
		}
		s, at := New(dyns), Places(dyns)
		scope, row := Open, slices.Repeat([]int{None}, many)
		numbers, rows := []int{}, [][]int{}
		for i := range 400 {
			if i%40 == 0 {
				scope, row = Open, slices.Repeat([]int{None}, many)
			}
			resource := i * i * 31 % (many + 4)
			row = slices.Clone(row)
			for _, d := range dyns {
				if d.Resource == resource && row[at[d.Name]] == None {
					row[at[d.Name]] = d.Form
				}
			}
			scope = s.Enter(scope, resource)
			numbers, rows = append(numbers, scope), append(rows, row)
		}
		for i, row := range rows {
			for name, place := range at {
				if s.Bound(numbers[i], name) != row[place] {
					t.Fatal(many, i, name, s.Bound(numbers[i], name), row[place])
				}
			}
			for j := range i {
				if (numbers[i] == numbers[j]) != slices.Equal(row, rows[j]) {
					t.Fatal(many, i, j, numbers[i], numbers[j])
				}
			}
		}
	}
}

// A long chain of resources, each with a name of its own, makes nodes by its length, not by the square of it.
func TestLongChain(t *testing.T) {
	const many = 30000
	var dyns []api.Dyn
	for i := range many {
		dyns = append(dyns, dyn(strconv.Itoa(i), i, i))
	}
	s, scope := New(dyns), Open
	for i := range many {
		scope = s.Enter(scope, i)
	}
	for _, i := range []int{0, 1, many / 2, many - 1} {
		if got := s.Bound(scope, strconv.Itoa(i)); got != i {
			t.Error(i, got)
		}
	}
	if len(s.nodes) > 10*many {
		t.Error(len(s.nodes))
	}
}

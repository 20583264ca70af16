package scope

import (
	"strconv"
	"testing"
	"time"

	"caliper/api"
)

// within asks that something ends soon enough, as it does where what is long does not cost the square of its length.
func within(t *testing.T, seconds int, what func()) {
	t.Helper()
	begun := time.Now()
	what()
	if taken := time.Since(begun); taken > time.Duration(seconds)*time.Second {
		t.Error("it took", taken)
	}
}

// P18.2: a chain of resources that each bind a name of their own, at whose end all are asked for. Of whatever many names, each is bound to its own form.
func TestCloseChains(t *testing.T) {
	for _, many := range []int{1, 2, 15, 16, 17, 31, 32, 255, 256, 257, 300, 4095, 4096, 4097, 50000} {
		p := api.Prog{Forms: make([]api.Form, many+1), Root: 0}
		for i := range many {
			name := strconv.Itoa(i)
			p.Forms[i] = form(i, ref(i+1))
			p.Forms[many].Rules = append(p.Forms[many].Rules, dynamic(name, many))
			p.Dyns = append(p.Dyns, dyn(name, i, i))
		}
		p.Forms[many].Resource = many
		within(t, 20, func() {
			// The forms bound are asked anew in the scope that has all names, but the last one, which was asked in it already.
			q, numbers, errno := Close(p, 2*many)
			if errno != api.OK || len(numbers) != 2*many || len(q.Forms) != 2*many {
				t.Fatal(many, errno, len(numbers))
			}
			for i, n := range numbers {
				if want := i % (many + 1); n != want {
					t.Fatal(many, i, n, want)
				}
			}
			for i, r := range q.Forms[many].Rules {
				want := many + 1 + i
				if i == many-1 {
					want = i
				}
				if r.Subs[0] != want {
					t.Fatal(many, i, r)
				}
			}
		})
	}
}

// P18.2: many resources with many names each, asked in many scopes, which differ in one name each.
func TestCloseManyScopes(t *testing.T) {
	const many = 300
	p := api.Prog{Forms: make([]api.Form, 2*many+1)}
	for i := range many {
		p.Forms[0].Rules = append(p.Forms[0].Rules, ref(1+i))
		p.Forms[1+many+i] = form(1 + many + i)
		for j := range many {
			p.Forms[1+i].Rules = append(p.Forms[1+i].Rules, ref(1+many+j))
			if j != i {
				p.Dyns = append(p.Dyns, dyn(strconv.Itoa(j), 1+i, 0))
			}
			p.Dyns = append(p.Dyns, dyn(strconv.Itoa(j), 1+many+i, 1+i))
		}
		p.Forms[1+i].Resource = 1 + i
	}
	within(t, 20, func() {
		q, numbers, errno := Close(p, 1+many+many*many)
		if errno != api.OK || len(numbers) != 1+many+many*many || len(q.Forms) != len(numbers) {
			t.Fatal(errno, len(numbers))
		}
		for i, n := range numbers[1+many:] {
			if n != 1+many+i%many {
				t.Fatal(i, n)
			}
		}
		refused(t, p, many+many*many, api.ErrMany)
	})
}

// P18.2: where instances would be without number, too many are told soon, and without a copy of what they hold.
func TestCloseTooMany(t *testing.T) {
	const many = 40
	p := api.Prog{Forms: make([]api.Form, many+1)}
	for i := range many {
		p.Forms[0].Rules = append(p.Forms[0].Rules, ref(1+i))
		p.Forms[1+i] = form(1+i, ref(0), api.Rule{Kind: api.RuEnum, Vals: make([]api.Value, 10000)})
		for j := range i {
			p.Dyns = append(p.Dyns, dyn(strconv.Itoa(j), 1+i, i))
		}
	}
	within(t, 20, func() {
		for _, most := range []int{1, 100, 16384} {
			refused(t, p, most, api.ErrMany)
		}
	})
}

// P18.1: many names and many Dyns.
func TestLongScopes(t *testing.T) {
	const many = 100000
	var p api.Prog
	scope := make([]int, many)
	for i := range 2 * many {
		p.Dyns = append(p.Dyns, dyn(strconv.Itoa(i%many), 7, i))
	}
	for i := range scope {
		scope[i] = -1
	}
	within(t, 20, func() {
		names := Names(p)
		entered := Enter(p, scope, 7)
		if len(names) != many || len(entered) != many {
			t.Fatal(len(names), len(entered))
		}
		for i := range entered {
			if names[i] != strconv.Itoa(i) || entered[i] != i {
				t.Fatal(i, names[i], entered[i])
			}
		}
		if got := Bound(p, entered, strconv.Itoa(many-1)); got != many-1 {
			t.Error(got)
		}
	})
}

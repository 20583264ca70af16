package nat

import (
	"fmt"
	"math"
	"math/big"
	"slices"
	"strings"
	"testing"

	"caliper/api"
)

// wrong holds limbs that are no number.
func wrong() [][]uint32 {
	return [][]uint32{
		{0},
		{0, 0},
		{1, 0},
		{999999999, 0},
		{1, 2, 3, 0},
		{1000000000},
		{1000000001},
		{math.MaxUint32},
		{1000000000, 1},
		{1, 1000000000},
		{1, 1000000000, 1},
		{1000000000, 0},
	}
}

// edges holds numbers at which something begins or ends: a limb, two limbs, a carry through all of them, a guess that is short.
func edges() [][]uint32 {
	nines := func(n int) []uint32 { return slices.Repeat([]uint32{999999999}, n) }
	return [][]uint32{
		nil,
		{},
		{1},
		{2},
		{3},
		{7},
		{10},
		{499999999},
		{500000000},
		{999999998},
		{999999999},
		{0, 1},
		{1, 1},
		{0, 2},
		{999999999, 1},
		{0, 999999999},
		{999999998, 999999999},
		{0, 500000000},
		nines(2),
		{0, 0, 1},
		{1, 0, 1},
		{0, 1, 1},
		{999999999, 0, 1},
		{999999999, 999999999, 1},
		{0, 999999999, 999999998},
		{0, 0, 999999999},
		nines(3),
		{0, 0, 0, 1},
		{5, 0, 0, 7},
		nines(4),
		{1, 0, 0, 0, 0, 1},
		{0, 999999999, 999999999, 999999998, 999999999},
		nines(9),
		append(make([]uint32, 9), 1),
		nines(40),
	}
}

// chance is a row of numbers that look as if they had no rule, the same ones each time.
type chance uint64

func (c *chance) below(n int) int {
	*c = *c*6364136223846793005 + 1442695040888963407
	return int(uint64(*c)>>33) % n
}

// number has n limbs, many of them at the edges of what a limb may be.
func (c *chance) number(n int) []uint32 {
	a := make([]uint32, n)
	for i := range a {
		switch c.below(4) {
		case 0:
			a[i] = uint32(999999999 - c.below(2))
		case 1:
			a[i] = uint32(c.below(2))
		default:
			a[i] = uint32(c.below(1000000000))
		}
	}
	if n > 0 && a[n-1] == 0 {
		a[n-1] = 1
	}
	return a
}

// whole is the number of these limbs, by other means.
func whole(a []uint32) *big.Int {
	n := new(big.Int)
	for _, limb := range slices.Backward(a) {
		n.Mul(n, big.NewInt(1000000000))
		n.Add(n, big.NewInt(int64(limb)))
	}
	return n
}

// isNumber tells whether these limbs are that number, with no limb too many.
func isNumber(a []uint32, n *big.Int) bool {
	for _, limb := range a {
		if limb > 999999999 {
			return false
		}
	}
	return (len(a) == 0 || a[len(a)-1] != 0) && whole(a).Cmp(n) == 0
}

// shown shortens what would fill pages.
func shown(a []uint32) string {
	if len(a) > 12 {
		return fmt.Sprint(a[:12], " and ", len(a)-12, " more")
	}
	return fmt.Sprint(a)
}

// P2.1: what is a number, and what is none.
func TestCheck(t *testing.T) {
	for _, a := range edges() {
		if e := Check(a); e != api.OK {
			t.Errorf("Check(%s) = %d", shown(a), e)
		}
	}
	for _, a := range wrong() {
		if e := Check(a); e != api.ErrArg {
			t.Errorf("Check(%s) = %d; want %d", shown(a), e, api.ErrArg)
		}
	}
	for place := range 20 {
		a := slices.Repeat([]uint32{7}, 20)
		if a[place] = 1000000000; Check(a) != api.ErrArg {
			t.Errorf("Check took a limb of 10^9 at %d", place)
		}
		if a[place] = 999999999; Check(a) != api.OK {
			t.Errorf("Check refused a limb of 999999999 at %d", place)
		}
	}
}

// P2.1: digits, nine a limb, the lowest first.
func TestOf(t *testing.T) {
	cases := []struct {
		s    string
		want []uint32
	}{
		{"0", nil},
		{"00", nil},
		{strings.Repeat("0", 9), nil},
		{strings.Repeat("0", 28), nil},
		{"1", []uint32{1}},
		{"9", []uint32{9}},
		{"10", []uint32{10}},
		{"123456789", []uint32{123456789}},
		{"999999999", []uint32{999999999}},
		{"1000000000", []uint32{0, 1}},
		{"1000000001", []uint32{1, 1}},
		{"9876543210", []uint32{876543210, 9}},
		{"123456789012345678", []uint32{12345678, 123456789}},
		{"999999999999999999", []uint32{999999999, 999999999}},
		{"1000000000000000000", []uint32{0, 0, 1}},
		{"01", []uint32{1}},
		{"0000000001", []uint32{1}},
		{"000000000000000000000123", []uint32{123}},
		{"0001000000000", []uint32{0, 1}},
		{strings.Repeat("0", api.MaxBytes), nil},
		{strings.Repeat("0", api.MaxBytes-1) + "5", []uint32{5}},
		{"1" + strings.Repeat("0", 27), []uint32{0, 0, 0, 1}},
	}
	for _, c := range cases {
		if a, e := Of(c.s); e != api.OK || !slices.Equal(a, c.want) {
			t.Errorf("Of(%.30s) = %s, %d; want %v", c.s, shown(a), e, c.want)
		}
	}
}

// P2.1: as many digits as may be.
func TestOfLongest(t *testing.T) {
	s := "7" + strings.Repeat("123456789", 116508) + "000"
	if len(s) != api.MaxBytes {
		t.Fatal(len(s))
	}
	a, e := Of(s)
	if e != api.OK || len(a) != 116509 || a[0] != 456789000 || a[1] != 456789123 || a[len(a)-1] != 7123 {
		t.Fatalf("Of the longest: %s, %d", shown(a), e)
	}
	if text, e := Text(a); e != api.OK || text != s {
		t.Errorf("Text of it is another text, of %d bytes, %d", len(text), e)
	}
}

// P2.1: what is no row of digits, or too long a one.
func TestOfRefuses(t *testing.T) {
	texts := []string{
		"",
		"+1", "-1", "-0", " 1", "1 ", "1.0", "1e3", "0x1", "1_000", "1,000", "\x00", "\u0661", "\uff11", "\xff",
		strings.Repeat("1", api.MaxBytes+1),
		strings.Repeat("0", api.MaxBytes+1),
		"a" + strings.Repeat("1", api.MaxBytes-1),
	}
	for c := range 0x100 {
		if c >= '0' && c <= '9' {
			continue
		}
		for _, place := range []int{0, 1, 8, 9, 10, 18} {
			digits := []byte(strings.Repeat("5", 19))
			digits[place] = byte(c)
			texts = append(texts, string(digits))
		}
	}
	for _, s := range texts {
		if a, e := Of(s); e != api.ErrArg || len(a) != 0 {
			t.Errorf("Of(%.30q) = %s, %d; want none, %d", s, shown(a), e, api.ErrArg)
		}
	}
}

// P2.1: digits without a nought ahead, and with all noughts inside.
func TestText(t *testing.T) {
	cases := []struct {
		a    []uint32
		want string
	}{
		{nil, "0"},
		{[]uint32{}, "0"},
		{[]uint32{1}, "1"},
		{[]uint32{10}, "10"},
		{[]uint32{999999999}, "999999999"},
		{[]uint32{0, 1}, "1000000000"},
		{[]uint32{1, 1}, "1000000001"},
		{[]uint32{99999999, 10}, "10099999999"},
		{[]uint32{0, 0, 20}, "20000000000000000000"},
		{[]uint32{7, 0, 5}, "5000000000000000007"},
		{[]uint32{999999999, 999999999}, "999999999999999999"},
	}
	for _, c := range cases {
		if s, e := Text(c.a); e != api.OK || s != c.want {
			t.Errorf("Text(%v) = %q, %d; want %q", c.a, s, e, c.want)
		}
	}
	for _, a := range edges() {
		if s, e := Text(a); e != api.OK || s != whole(a).String() {
			t.Errorf("Text(%s) = %.30q, %d", shown(a), s, e)
		}
	}
}

// P2.1: Of takes back what Text did, whatever noughts stand ahead.
func TestTextAndOf(t *testing.T) {
	c := chance(1)
	for n := range 60 {
		a := c.number(n)
		s, e := Text(a)
		if e != api.OK {
			t.Fatalf("Text(%s): %d", shown(a), e)
		}
		for noughts := range 11 {
			if b, e := Of(strings.Repeat("0", noughts) + s); e != api.OK || !slices.Equal(a, b) {
				t.Fatalf("Of of Text(%s) with %d noughts = %s, %d", shown(a), noughts, shown(b), e)
			}
		}
	}
}

// P2.1: every call refuses what is no number, wherever it stands, ahead of its other errors.
func TestAllRefuse(t *testing.T) {
	goods := [][]uint32{nil, {1}, {5, 5}, {999999999}, {1, 2, 3}}
	for _, a := range wrong() {
		if s, e := Text(a); s != "" || e != api.ErrArg {
			t.Errorf("Text(%v) = %q, %d", a, s, e)
		}
		for _, b := range append(goods, wrong()...) {
			refusesBoth(t, a, b)
			refusesBoth(t, b, a)
		}
	}
}

// refusesBoth asks every call of two numbers, of which one at least is none.
func refusesBoth(t *testing.T, a []uint32, b []uint32) {
	t.Helper()
	if c, e := Compare(a, b); c != 0 || e != api.ErrArg {
		t.Errorf("Compare(%v, %v) = %d, %d", a, b, c, e)
	}
	if c, e := Add(a, b); len(c) != 0 || e != api.ErrArg {
		t.Errorf("Add(%v, %v) = %v, %d", a, b, c, e)
	}
	if c, e := Sub(a, b); len(c) != 0 || e != api.ErrArg {
		t.Errorf("Sub(%v, %v) = %v, %d", a, b, c, e)
	}
	if c, e := Mul(a, b); len(c) != 0 || e != api.ErrArg {
		t.Errorf("Mul(%v, %v) = %v, %d", a, b, c, e)
	}
	if q, r, e := Div(a, b); len(q) != 0 || len(r) != 0 || e != api.ErrArg {
		t.Errorf("Div(%v, %v) = %v, %v, %d", a, b, q, r, e)
	}
	for _, n := range []int{0, 1, 5, -1} {
		if c, e := Power(a, n, b); len(c) != 0 || e != api.ErrArg {
			t.Errorf("Power(%v, %d, %v) = %v, %d", a, n, b, c, e)
		}
	}
}

// P2.2: what each call answers of two numbers.
func TestCalls(t *testing.T) {
	cases := []struct {
		a, b, sum, less, product, quotient, rest []uint32
		order                                    int
	}{
		{a: []uint32{5}, b: []uint32{3}, sum: []uint32{8}, less: []uint32{2}, product: []uint32{15}, quotient: []uint32{1}, rest: []uint32{2}, order: 1},
		{a: []uint32{999999999}, b: []uint32{1}, sum: []uint32{0, 1}, less: []uint32{999999998}, product: []uint32{999999999}, quotient: []uint32{999999999}, order: 1},
		{a: []uint32{999999999}, b: []uint32{999999999}, sum: []uint32{999999998, 1}, product: []uint32{1, 999999998}, quotient: []uint32{1}},
		{a: []uint32{0, 1}, b: []uint32{3}, sum: []uint32{3, 1}, less: []uint32{999999997}, product: []uint32{0, 3}, quotient: []uint32{333333333}, rest: []uint32{1}, order: 1},
		{a: []uint32{0, 0, 1}, b: []uint32{1}, sum: []uint32{1, 0, 1}, less: []uint32{999999999, 999999999}, product: []uint32{0, 0, 1}, quotient: []uint32{0, 0, 1}, order: 1},
		{a: []uint32{0, 0, 1}, b: []uint32{0, 1}, sum: []uint32{0, 1, 1}, less: []uint32{0, 999999999}, product: []uint32{0, 0, 0, 1}, quotient: []uint32{0, 1}, order: 1},
		{a: []uint32{0, 0, 1}, b: []uint32{1, 1}, sum: []uint32{1, 1, 1}, less: []uint32{999999999, 999999998}, product: []uint32{0, 0, 1, 1}, quotient: []uint32{999999999}, rest: []uint32{1}, order: 1},
	}
	for _, c := range cases {
		if order, e := Compare(c.a, c.b); order != c.order || e != api.OK {
			t.Errorf("Compare(%v, %v) = %d, %d", c.a, c.b, order, e)
		}
		if sum, e := Add(c.a, c.b); !slices.Equal(sum, c.sum) || e != api.OK {
			t.Errorf("Add(%v, %v) = %v, %d", c.a, c.b, sum, e)
		}
		if less, e := Sub(c.a, c.b); !slices.Equal(less, c.less) || e != api.OK {
			t.Errorf("Sub(%v, %v) = %v, %d", c.a, c.b, less, e)
		}
		if product, e := Mul(c.a, c.b); !slices.Equal(product, c.product) || e != api.OK {
			t.Errorf("Mul(%v, %v) = %v, %d", c.a, c.b, product, e)
		}
		if q, r, e := Div(c.a, c.b); !slices.Equal(q, c.quotient) || !slices.Equal(r, c.rest) || e != api.OK {
			t.Errorf("Div(%v, %v) = %v, %v, %d", c.a, c.b, q, r, e)
		}
	}
}

// holds asks every call of two numbers, and holds the answers against those of whole numbers.
func holds(t *testing.T, a []uint32, b []uint32) {
	t.Helper()
	oldA, oldB := slices.Clone(a), slices.Clone(b)
	x, y := whole(a), whole(b)
	if c, e := Compare(a, b); c != x.Cmp(y) || e != api.OK {
		t.Errorf("Compare(%s, %s) = %d, %d", shown(a), shown(b), c, e)
	}
	if c, e := Add(a, b); e != api.OK || !isNumber(c, new(big.Int).Add(x, y)) {
		t.Errorf("Add(%s, %s) = %s, %d", shown(a), shown(b), shown(c), e)
	}
	if c, e := Mul(a, b); e != api.OK || !isNumber(c, new(big.Int).Mul(x, y)) {
		t.Errorf("Mul(%s, %s) = %s, %d", shown(a), shown(b), shown(c), e)
	}
	if c, e := Sub(a, b); x.Cmp(y) < 0 && (e != api.ErrArg || len(c) != 0) {
		t.Errorf("Sub(%s, %s) = %s, %d; want %d", shown(a), shown(b), shown(c), e, api.ErrArg)
	} else if x.Cmp(y) >= 0 && (e != api.OK || !isNumber(c, new(big.Int).Sub(x, y))) {
		t.Errorf("Sub(%s, %s) = %s, %d", shown(a), shown(b), shown(c), e)
	}
	q, r, e := Div(a, b)
	if y.Sign() == 0 {
		if e != api.ErrZero || len(q) != 0 || len(r) != 0 {
			t.Errorf("Div(%s, nought) = %s, %s, %d; want %d", shown(a), shown(q), shown(r), e, api.ErrZero)
		}
	} else if wantQ, wantR := new(big.Int).QuoRem(x, y, new(big.Int)); e != api.OK || !isNumber(q, wantQ) || !isNumber(r, wantR) {
		t.Errorf("Div(%s, %s) = %s, %s, %d", shown(a), shown(b), shown(q), shown(r), e)
	}
	if !slices.Equal(oldA, a) || !slices.Equal(oldB, b) {
		t.Errorf("a call changed %s or %s", shown(oldA), shown(oldB))
	}
}

// P2.2: edges against edges.
func TestEdges(t *testing.T) {
	for _, a := range edges() {
		for _, b := range edges() {
			holds(t, a, b)
		}
	}
}

// P2.2: numbers of many lengths, and those that differ in one limb.
func TestManyNumbers(t *testing.T) {
	c := chance(2)
	for range 4000 {
		a, b := c.number(c.below(12)), c.number(c.below(7))
		holds(t, a, b)
		near := slices.Clone(a)
		if len(near) > 1 {
			near[c.below(len(near)-1)] = uint32(c.below(1000000000))
		}
		holds(t, a, near)
		holds(t, near, a)
	}
}

// P2.2: quotients whose limbs are hard to guess: what is divided is a multiple, or one more or less.
func TestDivNearMultiples(t *testing.T) {
	c := chance(3)
	one := []uint32{1}
	for range 4000 {
		b, q := c.number(1+c.below(6)), c.number(1+c.below(5))
		a, _ := Mul(b, q)
		below, _ := Sub(a, one)
		above, _ := Add(a, one)
		holds(t, a, b)
		holds(t, below, b)
		holds(t, above, b)
	}
}

// P2.2: columns of more products of the greatest limbs than fit into 64 bits.
func TestLongNumbers(t *testing.T) {
	nines := slices.Repeat([]uint32{999999999}, 3000)
	c := chance(4)
	holds(t, nines, nines)
	holds(t, nines, nines[:1500])
	holds(t, c.number(2000), c.number(900))
	holds(t, nines, []uint32{1, 1})
}

// P2.2: the errors of Sub, Div and Power, and which one comes first.
func TestErrors(t *testing.T) {
	if c, e := Sub(nil, []uint32{1}); e != api.ErrArg || len(c) != 0 {
		t.Errorf("Sub(nought, 1) = %v, %d", c, e)
	}
	for _, zero := range [][]uint32{nil, {}} {
		if q, r, e := Div([]uint32{1}, zero); e != api.ErrZero || len(q) != 0 || len(r) != 0 {
			t.Errorf("Div(1, nought) = %v, %v, %d", q, r, e)
		}
		if q, r, e := Div(zero, zero); e != api.ErrZero || len(q) != 0 || len(r) != 0 {
			t.Errorf("Div(nought, nought) = %v, %v, %d", q, r, e)
		}
		for _, n := range []int{0, 1, 2, -1, math.MinInt} {
			if c, e := Power([]uint32{2}, n, zero); e != api.ErrZero || len(c) != 0 {
				t.Errorf("Power(2, %d, nought) = %v, %d", n, c, e)
			}
		}
	}
	for _, m := range [][]uint32{{1}, {2}, {7, 7}} {
		for _, n := range []int{-1, -2, math.MinInt} {
			if c, e := Power([]uint32{2}, n, m); e != api.ErrArg || len(c) != 0 {
				t.Errorf("Power(2, %d, %v) = %v, %d", n, m, c, e)
			}
		}
	}
}

// P2.2: powers, at the edges.
func TestPower(t *testing.T) {
	cases := []struct {
		a    []uint32
		n    int
		m    []uint32
		want []uint32
	}{
		{nil, 0, []uint32{7}, []uint32{1}},
		{nil, 1, []uint32{7}, nil},
		{nil, math.MaxInt, []uint32{7}, nil},
		{[]uint32{5}, 0, []uint32{7}, []uint32{1}},
		{[]uint32{5}, 0, []uint32{1}, nil},
		{nil, 0, []uint32{1}, nil},
		{[]uint32{5}, 3, []uint32{1}, nil},
		{[]uint32{5}, 1, []uint32{7}, []uint32{5}},
		{[]uint32{9}, 1, []uint32{7}, []uint32{2}},
		{[]uint32{5}, 2, []uint32{7}, []uint32{4}},
		{[]uint32{7}, 2, []uint32{7}, nil},
		{[]uint32{0, 1}, 0, []uint32{0, 1}, []uint32{1}},
		{[]uint32{10}, 9, []uint32{0, 1}, nil},
		{[]uint32{10}, 9, []uint32{0, 2}, []uint32{0, 1}},
		{[]uint32{10}, 20, []uint32{0, 0, 0, 1}, []uint32{0, 0, 100}},
		{[]uint32{2}, 1000000006, []uint32{7, 1}, []uint32{1}},
	}
	for _, c := range cases {
		if p, e := Power(c.a, c.n, c.m); e != api.OK || !slices.Equal(p, c.want) {
			t.Errorf("Power(%v, %d, %v) = %v, %d; want %v", c.a, c.n, c.m, p, e, c.want)
		}
	}
}

// P2.2: powers of all edges, held against those of whole numbers.
func TestPowersOfEdges(t *testing.T) {
	exponents := []int{0, 1, 2, 3, 4, 5, 6, 7, 8, 63, 64, 65, 1000000, 1<<32 + 1, 1 << 62, math.MaxInt - 1, math.MaxInt}
	for _, a := range edges() {
		for _, m := range edges() {
			if len(m) == 0 {
				continue
			}
			for _, n := range exponents {
				want := new(big.Int).Exp(whole(a), big.NewInt(int64(n)), whole(m))
				if p, e := Power(a, n, m); e != api.OK || !isNumber(p, want) {
					t.Fatalf("Power(%s, %d, %s) = %s, %d", shown(a), n, shown(m), shown(p), e)
				}
			}
		}
	}
}

// P2.3: by the package's own calls, what follows from one another.
func TestWhatFollows(t *testing.T) {
	c := chance(5)
	must := func(a []uint32, e api.Errno) []uint32 {
		if e != api.OK {
			t.Fatal(e)
		}
		return a
	}
	for range 2000 {
		x, y, z := c.number(c.below(9)), c.number(1+c.below(5)), c.number(c.below(6))
		if !slices.Equal(must(Add(x, y)), must(Add(y, x))) || !slices.Equal(must(Mul(x, y)), must(Mul(y, x))) {
			t.Fatalf("the order of %v, %v counts", x, y)
		}
		if !slices.Equal(must(Sub(must(Add(x, y)), y)), x) {
			t.Fatalf("%v and %v, less that, is another", x, y)
		}
		left := must(Mul(must(Add(x, y)), z))
		right := must(Add(must(Mul(x, z)), must(Mul(y, z))))
		if !slices.Equal(left, right) {
			t.Fatalf("(%v + %v) * %v = %v or %v", x, y, z, left, right)
		}
		q, r, e := Div(x, y)
		if e != api.OK || !slices.Equal(must(Add(must(Mul(q, y)), r)), x) {
			t.Fatalf("Div(%v, %v) = %v, %v, %d", x, y, q, r, e)
		}
		if order, _ := Compare(r, y); order != -1 {
			t.Fatalf("the rest %v is not less than %v", r, y)
		}
	}
}

// answers holds all lists that calls answer of these.
func answers(a []uint32, b []uint32) [][]uint32 {
	sum, _ := Add(a, b)
	less, _ := Sub(a, b)
	more, _ := Sub(b, a)
	product, _ := Mul(a, b)
	quotient, rest, _ := Div(a, b)
	power, _ := Power(a, 1, b)
	first, _ := Power(a, 0, b)
	return [][]uint32{sum, less, more, product, quotient, rest, power, first}
}

// spoiled writes over a list and all the room behind its end.
func spoiled(a []uint32) {
	a = a[:cap(a)]
	for i := range a {
		a[i] = 4000000000
	}
}

// P2.1: answers are new memory, even where a number comes back as it was: neither that of an argument, nor of one another.
func TestNewMemory(t *testing.T) {
	for _, x := range edges() {
		for _, y := range edges() {
			roomA := append(slices.Clone(x), 8, 8, 8, 8, 8, 8)
			roomB := append(slices.Clone(y), 9, 9, 9, 9, 9, 9)
			oldA, oldB := slices.Clone(roomA), slices.Clone(roomB)
			lists := answers(roomA[:len(x)], roomB[:len(y)])
			for i, l := range lists {
				rest := make([][]uint32, 0, len(lists))
				for _, other := range lists[i+1:] {
					rest = append(rest, slices.Clone(other))
				}
				spoiled(l)
				for k, other := range lists[i+1:] {
					if !slices.Equal(other, rest[k]) {
						t.Fatalf("answers %d and %d of %s, %s share memory", i, i+1+k, shown(x), shown(y))
					}
				}
			}
			if !slices.Equal(oldA, roomA) || !slices.Equal(oldB, roomB) {
				t.Fatalf("an answer of %s, %s is an argument's memory, or a call changed one", shown(x), shown(y))
			}
		}
	}
}

// P2.1: one list as both arguments stays as it was.
func TestSameListTwice(t *testing.T) {
	for _, x := range edges() {
		a := slices.Clone(x)
		holds(t, a, a)
		for _, l := range answers(a, a) {
			spoiled(l)
		}
		if !slices.Equal(a, x) {
			t.Errorf("%s became %s", shown(x), shown(a))
		}
	}
}

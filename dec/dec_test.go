package dec

import (
	"errors"
	"math"
	"math/big"
	"regexp"
	"strconv"
	"strings"
	"testing"

	"caliper/api"
)

// num is the number of a text that is one.
func num(t *testing.T, s string) api.Dec {
	t.Helper()
	d, e := Parse(s)
	if e != api.OK {
		t.Fatalf("Parse(%s): %d", cut(s), e)
	}
	return d
}

// cut is a text, short enough to be told.
func cut(s string) string {
	if len(s) > 60 {
		return strconv.Quote(s[:30]) + ".." + strconv.Itoa(len(s)) + " bytes.." + strconv.Quote(s[len(s)-20:])
	}
	return strconv.Quote(s)
}

// ratio is a number's value, by other means.
func ratio(d api.Dec) *big.Rat {
	r := new(big.Rat)
	if d.Digits == "" {
		return r
	}
	digits, _ := new(big.Int).SetString(d.Digits, 10)
	ten := new(big.Int).Exp(big.NewInt(10), big.NewInt(int64(max(d.Exp, -d.Exp))), nil)
	if d.Exp >= 0 {
		r.SetInt(digits.Mul(digits, ten))
	} else {
		r.SetFrac(digits, ten)
	}
	if d.Neg {
		r.Neg(r)
	}
	return r
}

// chance is a row of numbers that look as if they had no rule, the same ones each time.
type chance uint64

func (c *chance) below(n int) int {
	*c = *c*6364136223846793005 + 1442695040888963407
	return int(uint64(*c)>>33) % n
}

// digits are n of them, with no nought at either end.
func (c *chance) digits(n int) string {
	b := make([]byte, n)
	for i := range b {
		b[i] = byte('0' + c.below(10))
	}
	for _, i := range []int{0, n - 1} {
		b[i] = byte('1' + c.below(9))
	}
	return string(b)
}

// number may be, has at most n digits, and is at times nought.
func (c *chance) number(n int, exp int) api.Dec {
	if c.below(12) == 0 {
		return api.Dec{}
	}
	return api.Dec{Neg: c.below(2) == 0, Digits: c.digits(1 + c.below(n)), Exp: c.below(2*exp+1) - exp}
}

// goods are numbers that may be, at the edges of that, in rising order.
func goods() []api.Dec {
	nines := strings.Repeat("9", api.MaxDigits)
	up := []api.Dec{
		{Digits: "1", Exp: -api.MaxExp},
		{Digits: "11", Exp: -api.MaxExp},
		{Digits: nines, Exp: -api.MaxExp},
		{Digits: "1", Exp: -2},
		{Digits: "1", Exp: -1},
		{Digits: "11", Exp: -2},
		{Digits: "2", Exp: -1},
		{Digits: "1"},
		{Digits: "15", Exp: -1},
		{Digits: "2"},
		{Digits: "9"},
		{Digits: "99", Exp: -1},
		{Digits: "1", Exp: 1},
		{Digits: "101", Exp: -1},
		{Digits: "11"},
		{Digits: "111", Exp: -1},
		{Digits: "12"},
		{Digits: "999999999"},
		{Digits: "1", Exp: 9},
		{Digits: "1000000001"},
		{Digits: "9999999999"},
		{Digits: "1", Exp: 10},
		{Digits: "1", Exp: 20},
		{Digits: nines, Exp: -1},
		{Digits: nines},
		{Digits: "1", Exp: api.MaxDigits},
		{Digits: "1", Exp: api.MaxExp},
		{Digits: "10000001", Exp: api.MaxExp - 7},
		{Digits: "9", Exp: api.MaxExp},
		{Digits: nines, Exp: api.MaxExp},
	}
	var all []api.Dec
	for i := len(up) - 1; i >= 0; i-- {
		below := up[i]
		below.Neg = true
		all = append(all, below)
	}
	return append(append(all, api.Dec{}), up...)
}

// wrongs are numbers that may not be.
func wrongs() []api.Dec {
	long := strings.Repeat("1", api.MaxDigits+1)
	all := []api.Dec{
		{Neg: true},
		{Exp: 1},
		{Exp: -1},
		{Exp: api.MaxExp},
		{Neg: true, Exp: 5},
		{Digits: "0"},
		{Digits: "00"},
		{Digits: "0", Exp: 1},
		{Digits: "01"},
		{Digits: "10"},
		{Digits: "010"},
		{Digits: "0" + strings.Repeat("1", api.MaxDigits-1)},
		{Digits: strings.Repeat("1", api.MaxDigits-1) + "0"},
		{Digits: long},
		{Digits: long, Exp: -1, Neg: true},
		{Digits: long + "0"},
		{Digits: "1", Exp: api.MaxExp + 1},
		{Digits: "1", Exp: -api.MaxExp - 1},
		{Digits: "1", Exp: math.MaxInt},
		{Digits: "1", Exp: math.MinInt},
		{Digits: "+1"},
		{Digits: "-1"},
		{Digits: "1-"},
		{Digits: "1.5"},
		{Digits: "1e5"},
		{Digits: " 1"},
		{Digits: "1 "},
		{Digits: "1_1"},
		{Digits: "\u0661"},
		{Digits: "\uff11"},
		{Digits: "\xff"},
		{Digits: "1\x001"},
	}
	for c := range 0x100 {
		if c < '0' || c > '9' {
			all = append(all, api.Dec{Digits: "1" + string([]byte{byte(c)}) + "1"}, api.Dec{Digits: string([]byte{byte(c)})}, api.Dec{Digits: "12" + string([]byte{byte(c)})})
		}
	}
	return all
}

// P3.1: which numbers may be.
func TestCheck(t *testing.T) {
	for _, d := range goods() {
		if e := Check(d); e != api.OK {
			t.Errorf("Check(%s, %d) = %d", cut(d.Digits), d.Exp, e)
		}
	}
	for _, d := range wrongs() {
		if e := Check(d); e != api.ErrArg {
			t.Errorf("Check(%t, %s, %d) = %d; want %d", d.Neg, cut(d.Digits), d.Exp, e, api.ErrArg)
		}
	}
}

// P3.1: every call refuses what may not be, wherever it stands, ahead of its other errors.
func TestAllRefuse(t *testing.T) {
	others := append([]api.Dec{{}, {Digits: "1"}, {Neg: true, Digits: "1"}, {Digits: "3", Exp: -1}}, wrongs()[:20]...)
	for _, d := range wrongs() {
		if s, e := Text(d); s != "" || e != api.ErrArg {
			t.Errorf("Text(%v) = %s, %d", d, cut(s), e)
		}
		if Whole(d) {
			t.Errorf("Whole(%s, %d)", cut(d.Digits), d.Exp)
		}
		if n, ok := Small(d); n != 0 || ok {
			t.Errorf("Small(%s, %d) = %d, %t", cut(d.Digits), d.Exp, n, ok)
		}
		for _, b := range others {
			refusesBoth(t, d, b)
			refusesBoth(t, b, d)
			refusesBoth(t, d, d)
		}
	}
}

// refusesBoth asks the calls of two numbers, of which one at least may not be.
func refusesBoth(t *testing.T, a api.Dec, b api.Dec) {
	t.Helper()
	if c, e := Compare(a, b); c != 0 || e != api.ErrArg {
		t.Errorf("Compare of what may not be = %d, %d", c, e)
	}
	if ok, e := Multiple(a, b); ok || e != api.ErrArg {
		t.Errorf("Multiple of what may not be = %t, %d", ok, e)
	}
}

// P3.2: what texts become.
func TestParse(t *testing.T) {
	cases := []struct {
		s    string
		want api.Dec
	}{
		{"1.50e2", api.Dec{Digits: "15", Exp: 1}},
		{"-0.0e9", api.Dec{}},
		{"0", api.Dec{}},
		{"-0", api.Dec{}},
		{"0.0", api.Dec{}},
		{"-0.000", api.Dec{}},
		{"0e0", api.Dec{}},
		{"0E+0", api.Dec{}},
		{"-0e-0", api.Dec{}},
		{"0e1000001", api.Dec{}},
		{"-0.00e-99999999999999999999999999", api.Dec{}},
		{"0e99999999999999999999999999", api.Dec{}},
		{"1", api.Dec{Digits: "1"}},
		{"-1", api.Dec{Neg: true, Digits: "1"}},
		{"9", api.Dec{Digits: "9"}},
		{"10", api.Dec{Digits: "1", Exp: 1}},
		{"100", api.Dec{Digits: "1", Exp: 2}},
		{"101", api.Dec{Digits: "101"}},
		{"1010", api.Dec{Digits: "101", Exp: 1}},
		{"0.1", api.Dec{Digits: "1", Exp: -1}},
		{"0.10", api.Dec{Digits: "1", Exp: -1}},
		{"0.01", api.Dec{Digits: "1", Exp: -2}},
		{"0.0100", api.Dec{Digits: "1", Exp: -2}},
		{"1.0", api.Dec{Digits: "1"}},
		{"10.0", api.Dec{Digits: "1", Exp: 1}},
		{"10.01", api.Dec{Digits: "1001", Exp: -2}},
		{"10.010", api.Dec{Digits: "1001", Exp: -2}},
		{"-12.5", api.Dec{Neg: true, Digits: "125", Exp: -1}},
		{"12.5e1", api.Dec{Digits: "125"}},
		{"12.5e0", api.Dec{Digits: "125", Exp: -1}},
		{"12.5E+3", api.Dec{Digits: "125", Exp: 2}},
		{"12.5e-3", api.Dec{Digits: "125", Exp: -4}},
		{"1e5", api.Dec{Digits: "1", Exp: 5}},
		{"1E5", api.Dec{Digits: "1", Exp: 5}},
		{"1e+5", api.Dec{Digits: "1", Exp: 5}},
		{"1e-5", api.Dec{Digits: "1", Exp: -5}},
		{"1e05", api.Dec{Digits: "1", Exp: 5}},
		{"1e-00005", api.Dec{Digits: "1", Exp: -5}},
		{"1e0", api.Dec{Digits: "1"}},
		{"1e-0", api.Dec{Digits: "1"}},
		{"0.000123e3", api.Dec{Digits: "123", Exp: -3}},
		{"1234567890.0987654321", api.Dec{Digits: "12345678900987654321", Exp: -10}},
	}
	for _, c := range cases {
		if d, e := Parse(c.s); e != api.OK || d != c.want {
			t.Errorf("Parse(%s) = %v, %d; want %v", c.s, d, e, c.want)
		}
	}
}

// P3.2: what is no JSON number.
func TestParseRefuses(t *testing.T) {
	texts := []string{
		"", "-", "+", ".", "e", "E5", "+1", "--1", "-+1", "01", "00", "-01", "-00", "00.5", "01e5",
		".5", "-.5", "1.", "-1.", "0.", "1.e5", "1..5", "1.5.5", "1.-5", "1.+5",
		"1e", "1E", "1e+", "1e-", "1.5e", "1ee5", "1e5e5", "1e5.5", "1e+-5", "1e--5", "1e 5", "1e5 ",
		" 1", "1 ", "\t1", "1\n", "1,", "1 2", "0x1", "0b1", "1_000", "1,000", "1a", "a1", "1f", "1L",
		"Infinity", "-Infinity", "NaN", "null", "true", "\"1\"", "[1]",
		"\u0661", "\uff11", "\u22121", "1\u0661", "1.\u0661", "1e\u0661", "\xff", "1\xff", "\x00", "1\x00",
		strings.Repeat("1", api.MaxDigits+1) + ".",
		strings.Repeat("1", api.MaxDigits+1) + "e",
		strings.Repeat("1", api.MaxDigits+1) + "x",
		"0" + strings.Repeat("1", api.MaxDigits+1),
		"1e1000001x",
		"1e" + strings.Repeat("9", 1000) + ".",
	}
	for _, s := range texts {
		if d, e := Parse(s); e != api.ErrNumber || d != (api.Dec{}) {
			t.Errorf("Parse(%s) = %s, %d; want %d", cut(s), cut(d.Digits), e, api.ErrNumber)
		}
	}
}

// P3.2: all short texts of the bytes that count, held against the form of a JSON number.
func TestParseAllShort(t *testing.T) {
	form := regexp.MustCompile(`^-?(0|[1-9][0-9]*)(\.[0-9]+)?([eE][+-]?[0-9]+)?$`)
	var all func(s string, left int)
	all = func(s string, left int) {
		d, e := Parse(s)
		switch {
		case !form.MatchString(s):
			if e != api.ErrNumber || d != (api.Dec{}) {
				t.Errorf("Parse(%q) = %v, %d; want %d", s, d, e, api.ErrNumber)
			}
		case e != api.OK || Check(d) != api.OK:
			t.Errorf("Parse(%q) = %v, %d", s, d, e)
		default:
			if want, _ := new(big.Rat).SetString(s); ratio(d).Cmp(want) != 0 {
				t.Errorf("Parse(%q) = %v", s, d)
			}
		}
		if left == 0 {
			return
		}
		for _, c := range "015.eE+-x" {
			all(s+string(c), left-1)
		}
	}
	all("", 5)
	for c := range 0x100 {
		for _, s := range []string{"", "-", "1", "1.", "1e", "1e+", "1.5"} {
			all(s+string([]byte{byte(c)}), 0)
		}
	}
}

// P3.2: how many digits may stand ahead of the `e`: noughts count, too, and so they do of nought.
func TestParseDigits(t *testing.T) {
	ones := func(n int) string { return strings.Repeat("1", n) }
	noughts := func(n int) string { return strings.Repeat("0", n) }
	most := api.MaxDigits
	goods := []struct {
		s    string
		want api.Dec
	}{
		{ones(most), api.Dec{Digits: ones(most)}},
		{"-" + ones(most), api.Dec{Neg: true, Digits: ones(most)}},
		{"1." + ones(most-1), api.Dec{Digits: ones(most), Exp: 1 - most}},
		{ones(most-1) + ".1e5", api.Dec{Digits: ones(most), Exp: 4}},
		{"1" + noughts(most-1), api.Dec{Digits: "1", Exp: most - 1}},
		{"1" + noughts(most-1) + "E-1", api.Dec{Digits: "1", Exp: most - 2}},
		{"1." + noughts(most-1), api.Dec{Digits: "1"}},
		{"0." + noughts(most-2) + "1", api.Dec{Digits: "1", Exp: 1 - most}},
		{"-0." + noughts(most-1), api.Dec{}},
		{"0." + noughts(most-1) + "e5", api.Dec{}},
		{ones(most) + "e" + noughts(200000) + "7", api.Dec{Digits: ones(most), Exp: 7}},
	}
	for _, c := range goods {
		if d, e := Parse(c.s); e != api.OK || d != c.want {
			t.Errorf("Parse(%s) = %s, %d, error %d", cut(c.s), cut(d.Digits), d.Exp, e)
		}
	}
	larges := []string{
		ones(most + 1), "-" + ones(most+1), "1." + ones(most), ones(most) + ".1", ones(most) + ".0",
		"1" + noughts(most), "1." + noughts(most), "0." + noughts(most), "-0." + noughts(most) + "e5",
		"0." + noughts(most-1) + "1", ones(most+1) + "e5", ones(most+1) + "e-1000001", ones(3 * most),
	}
	for _, s := range larges {
		if d, e := Parse(s); e != api.ErrLarge || d != (api.Dec{}) {
			t.Errorf("Parse(%s) = %s, %d, error %d; want %d", cut(s), cut(d.Digits), d.Exp, e, api.ErrLarge)
		}
	}
}

// P3.2: how far Exp may go, once noughts at the ends are gone.
func TestParseExp(t *testing.T) {
	noughts := func(n int) string { return strings.Repeat("0", n) }
	goods := []struct {
		s    string
		want api.Dec
	}{
		{"1e1000000", api.Dec{Digits: "1", Exp: 1000000}},
		{"1e-1000000", api.Dec{Digits: "1", Exp: -1000000}},
		{"-1E+1000000", api.Dec{Neg: true, Digits: "1", Exp: 1000000}},
		{"1e" + noughts(100000) + "1000000", api.Dec{Digits: "1", Exp: 1000000}},
		{"1e-" + noughts(100000) + "1000000", api.Dec{Digits: "1", Exp: -1000000}},
		{"0.1e1000001", api.Dec{Digits: "1", Exp: 1000000}},
		{"1.5e1000001", api.Dec{Digits: "15", Exp: 1000000}},
		{"1.50e1000001", api.Dec{Digits: "15", Exp: 1000000}},
		{"1.5e-999999", api.Dec{Digits: "15", Exp: -1000000}},
		{"10e999999", api.Dec{Digits: "1", Exp: 1000000}},
		{"10e-1000001", api.Dec{Digits: "1", Exp: -1000000}},
		{"1.0e1000000", api.Dec{Digits: "1", Exp: 1000000}},
		{"1.0e-1000000", api.Dec{Digits: "1", Exp: -1000000}},
		{"0." + noughts(65534) + "1e1065535", api.Dec{Digits: "1", Exp: 1000000}},
		{"1" + noughts(65535) + "e-1065535", api.Dec{Digits: "1", Exp: -1000000}},
	}
	for _, c := range goods {
		if d, e := Parse(c.s); e != api.OK || d != c.want {
			t.Errorf("Parse(%s) = %s, %d, error %d", cut(c.s), cut(d.Digits), d.Exp, e)
		}
	}
	nines := strings.Repeat("9", 300000)
	larges := []string{
		"1e1000001", "-1e1000001", "1E+1000001", "1e-1000001", "1e0001000001",
		"10e1000000", "0.1e-1000000", "1.5e-1000000", "1.5e1000002", "10e-1000002",
		"1e2147483648", "1e4294967296", "1e4294967297", "1e-4294967297",
		"1e9223372036854775807", "1e9223372036854775808", "1e-9223372036854775808", "1e18446744073709551616", "1e-18446744073709551617",
		"1e" + nines, "1e+" + nines, "-1.5E-" + nines, "1e1" + noughts(300000), "1e-1" + noughts(300000),
		"0." + noughts(65534) + "1e1065536", "1" + noughts(65535) + "e-1065536",
		"0." + noughts(65534) + "1e" + nines, "1" + noughts(65535) + "e-" + nines,
	}
	for _, s := range larges {
		if d, e := Parse(s); e != api.ErrLarge || d != (api.Dec{}) {
			t.Errorf("Parse(%s) = %s, %d, error %d; want %d", cut(s), cut(d.Digits), d.Exp, e, api.ErrLarge)
		}
	}
	for _, s := range []string{"0e" + nines, "-0.00e-" + nines, "0.0e+1000001", "0e-1000001"} {
		if d, e := Parse(s); e != api.OK || d != (api.Dec{}) {
			t.Errorf("Parse(%s) = %v, %d; want nought", cut(s), d, e)
		}
	}
}

// What is no number is an error of its own type, with the place up to which it was read; what is too large is another.
func TestReadErrors(t *testing.T) {
	for s, at := range map[string]int{"": 0, "x": 0, "-": 1, "01": 1, "1.": 2, "1.x": 2, "1e": 2, "1e+": 3, "1e5 ": 3, "12,": 2} {
		_, err := read(s)
		var none noNumber
		if !errors.As(err, &none) || none.at != at || !strings.Contains(err.Error(), strconv.Itoa(at)) {
			t.Errorf("read(%q): %v; want the place %d", s, err, at)
		}
	}
	_, err := read("1e1000001")
	var none noNumber
	if errors.As(err, &none) || !errors.Is(err, errLarge) {
		t.Errorf("read of what is too large: %v", err)
	}
}

// P3.3: texts of numbers.
func TestText(t *testing.T) {
	cases := []struct {
		d    api.Dec
		want string
	}{
		{api.Dec{}, "0"},
		{api.Dec{Digits: "15", Exp: 1}, "15e1"},
		{api.Dec{Digits: "1"}, "1"},
		{api.Dec{Neg: true, Digits: "1"}, "-1"},
		{api.Dec{Digits: "101"}, "101"},
		{api.Dec{Digits: "5", Exp: -1}, "5e-1"},
		{api.Dec{Neg: true, Digits: "125", Exp: -3}, "-125e-3"},
		{api.Dec{Digits: "1", Exp: api.MaxExp}, "1e1000000"},
		{api.Dec{Neg: true, Digits: "1", Exp: -api.MaxExp}, "-1e-1000000"},
	}
	for _, c := range cases {
		if s, e := Text(c.d); e != api.OK || s != c.want {
			t.Errorf("Text(%v) = %s, %d; want %s", c.d, s, e, c.want)
		}
	}
}

// P3.3: the order of numbers at the edges, by their places in a rising row.
func TestCompareEdges(t *testing.T) {
	rising := goods()
	for i, a := range rising {
		for k, b := range rising {
			want := 0
			if i < k {
				want = -1
			} else if i > k {
				want = 1
			}
			if c, e := Compare(a, b); c != want || e != api.OK {
				t.Errorf("Compare(%t %s %d, %t %s %d) = %d, %d; want %d", a.Neg, cut(a.Digits), a.Exp, b.Neg, cut(b.Digits), b.Exp, c, e, want)
			}
		}
	}
}

// P3.3: the order of many numbers, held against that of fractions.
func TestCompareMany(t *testing.T) {
	c := chance(1)
	for range 20000 {
		a, b := c.number(5, 4), c.number(5, 4)
		if c.below(3) == 0 && a.Digits != "" {
			b = api.Dec{Neg: a.Neg, Digits: a.Digits + c.digits(1+c.below(3)), Exp: a.Exp - c.below(4)}
		}
		want := ratio(a).Cmp(ratio(b))
		if got, e := Compare(a, b); got != want || e != api.OK {
			t.Fatalf("Compare(%v, %v) = %d, %d; want %d", a, b, got, e, want)
		}
		if got, e := Compare(b, a); got != -want || e != api.OK {
			t.Fatalf("Compare(%v, %v) = %d, %d; want %d", b, a, got, e, -want)
		}
	}
}

// P3.3: which numbers are whole.
func TestWhole(t *testing.T) {
	for _, s := range []string{"0", "-0.0", "1", "-1", "10", "1.0", "-5e3", "12.5e1", "1e1000000", "100e-2", "15", strings.Repeat("7", api.MaxDigits)} {
		if d := num(t, s); !Whole(d) {
			t.Errorf("Whole(%s) is false", cut(s))
		}
	}
	for _, s := range []string{"0.1", "-0.1", "1.5", "-1e-1", "12.5", "10.01", "1e-1000000", "105e-2", "1" + strings.Repeat("0", 65534) + "1e-1"} {
		if d := num(t, s); Whole(d) {
			t.Errorf("Whole(%s) is true", cut(s))
		}
	}
	c := chance(2)
	for range 5000 {
		if d := c.number(5, 3); Whole(d) != ratio(d).IsInt() {
			t.Fatalf("Whole(%v) = %t", d, Whole(d))
		}
	}
}

// P3.3: small numbers, and what is none.
func TestSmall(t *testing.T) {
	cases := []struct {
		s    string
		want int
	}{
		{"0", 0}, {"-0", 0}, {"0e99999999999", 0}, {"1", 1}, {"9", 9}, {"10", 10}, {"1.0", 1}, {"1e1", 10}, {"12.5e1", 125}, {"120e-1", 12},
		{"123456789", 123456789}, {"999999999", 999999999}, {"999999990", 999999990}, {"1000000000", 1000000000}, {"1e9", 1000000000}, {"1000000000.000", 1000000000}, {"100e7", 1000000000},
	}
	for _, c := range cases {
		if n, ok := Small(num(t, c.s)); n != c.want || !ok {
			t.Errorf("Small(%s) = %d, %t; want %d", c.s, n, ok, c.want)
		}
	}
	others := []string{
		"1000000001", "1000000010", "1100000000", "2e9", "9999999999", "1e10", "10000000000", "4294967296", "4294967297", "18446744073709551616", "18446744073709551617",
		"1e64", "1e1000000", "9e1000000", strings.Repeat("1", api.MaxDigits), "-1", "-1e9", "-1000000000",
		"0.5", "1.5", "-0.5", "999999999.5", "0.1", "1e-1", "1e-1000000", strings.Repeat("9", api.MaxDigits) + "e-65530",
	}
	for _, s := range others {
		if n, ok := Small(num(t, s)); n != 0 || ok {
			t.Errorf("Small(%s) = %d, %t", cut(s), n, ok)
		}
	}
}

// P3.4: multiples, and what is none.
func TestMultiple(t *testing.T) {
	cases := []struct {
		a, b string
		want bool
	}{
		{"0.3", "0.1", true}, {"0.35", "0.1", false}, {"0", "1", true}, {"0", "0.007", true}, {"0", "1e1000000", true}, {"-0.0", "3", true},
		{"1", "1", true}, {"-1", "1", true}, {"2", "1", true}, {"1", "2", false}, {"6", "3", true}, {"-6", "3", true}, {"7", "3", false}, {"-7", "3", false},
		{"1", "0.5", true}, {"1", "0.25", true}, {"1", "0.125", true}, {"1", "0.3", false}, {"3", "0.3", true}, {"0.5", "1", false}, {"1.5", "0.5", true}, {"1.5", "0.75", true},
		{"10", "4", false}, {"100", "4", true}, {"10", "2", true}, {"10", "5", true}, {"10", "25", false}, {"100", "25", true}, {"1000", "125", true}, {"100", "125", false},
		{"1000", "8", true}, {"100", "8", false}, {"1e28", "536870912", false}, {"1e29", "536870912", true}, {"1e30", "536870912", true}, {"1e29", "1073741824", false}, {"1e30", "1073741824", true},
		{"1e11", "244140625", false}, {"1e12", "244140625", true}, {"1e12", "1220703125", false}, {"1e13", "1220703125", true},
		{"3e30", "3221225472", true}, {"1e30", "3221225472", false}, {"1e40", "3", false}, {"3e40", "3", true}, {"7e40", "35", true}, {"1e40", "35", false},
		{"1e-1", "1", false}, {"1e-1", "10", false}, {"15", "1e1", false}, {"20", "1e1", true}, {"5", "10", false}, {"50", "10", true},
		{"19.99", "0.01", true}, {"4.35", "0.01", true}, {"1.1", "0.1", true}, {"0.0075", "0.0001", true}, {"0.00751", "0.0001", false}, {"1e308", "0.123456789", false},
		{"1e1000000", "1e-1000000", true}, {"1e-1000000", "1e1000000", false}, {"1e1000000", "3e-1000000", false}, {"3e1000000", "3e-1000000", true}, {"1e1000000", "7", false}, {"7e1000000", "7e1000000", true},
		{"1e-1000000", "1e-1000000", true}, {"1e1000000", "1e1000000", true}, {"1e999999", "1e1000000", false},
		{"1e1000000", "1048576", true}, {"1e1000000", "3145728", false}, {"3e1000000", "3145728", true}, {"1e1000000", "9765625e-1000000", true},
	}
	for _, c := range cases {
		if ok, e := Multiple(num(t, c.a), num(t, c.b)); ok != c.want || e != api.OK {
			t.Errorf("Multiple(%s, %s) = %t, %d; want %t", c.a, c.b, ok, e, c.want)
		}
	}
}

// P3.4: what is not above nought has no multiples, not even nought.
func TestMultipleOfNone(t *testing.T) {
	for _, a := range []string{"0", "1", "-1", "0.5", "1e1000000", "-6"} {
		for _, b := range []string{"0", "-0.0", "-1", "-3", "-0.5", "-1e-1000000", "-1e1000000"} {
			if ok, e := Multiple(num(t, a), num(t, b)); ok || e != api.ErrZero {
				t.Errorf("Multiple(%s, %s) = %t, %d; want %d", a, b, ok, e, api.ErrZero)
			}
		}
	}
}

// P3.4: many numbers, held against the quotients of fractions; half of them are multiples.
func TestMultipleMany(t *testing.T) {
	c := chance(3)
	primes := []int64{2, 5, 2, 5, 10, 3, 7}
	for range 20000 {
		b := api.Dec{Digits: c.digits(1 + c.below(4)), Exp: c.below(9) - 4}
		product := ratio(b)
		for range c.below(12) {
			product.Mul(product, big.NewRat(primes[c.below(len(primes))], 1))
		}
		a := num(t, product.FloatString(8))
		switch c.below(4) {
		case 0:
			a, b = b, a
		case 1:
			a = c.number(6, 8)
		case 2:
			a.Neg = a.Digits != ""
		}
		if b.Digits == "" {
			continue
		}
		want := new(big.Rat).Quo(ratio(a), ratio(b)).IsInt()
		if ok, e := Multiple(a, b); ok != want || e != api.OK {
			t.Fatalf("Multiple(%v, %v) = %t, %d; want %t", a, b, ok, e, want)
		}
	}
}

// P3.4: the longest numbers: powers of ten's primes, whose multiples are far ones, and others.
func TestMultipleLongest(t *testing.T) {
	power := func(base int64, n int64) string {
		return new(big.Int).Exp(big.NewInt(base), big.NewInt(n), nil).String()
	}
	twos, fives, other := power(2, 217702), power(5, 93760), "3"+strings.Repeat("6", api.MaxDigits-1)
	for _, s := range []string{twos, fives} {
		if len(s) > api.MaxDigits || len(s) < api.MaxDigits-2 {
			t.Fatal(len(s))
		}
	}
	cases := []struct {
		a, b string
		want bool
	}{
		{"1e217702", twos, true}, {"1e217701", twos, false}, {"1e1000000", twos, true}, {"-7e1000000", twos + "e-1000000", true}, {twos, twos, true}, {twos + "e5", twos, true},
		{"1e93760", fives, true}, {"1e93759", fives, false}, {"1e1000000", fives, true}, {"3e217702", twos + "e1", false}, {twos, fives, false},
		{other, other, true}, {other, "3", true}, {other, "11", false}, {"1e1000000", other, false}, {other + "e1000000", other + "e-1000000", true}, {other, "36666", false}, {other, "2e-1", true},
	}
	for _, c := range cases {
		if ok, e := Multiple(num(t, c.a), num(t, c.b)); ok != c.want || e != api.OK {
			t.Errorf("Multiple(%s, %s) = %t, %d; want %t", cut(c.a), cut(c.b), ok, e, c.want)
		}
	}
}

// P3.5: Parse takes back what Text did.
func TestTextAndParse(t *testing.T) {
	all := goods()
	c := chance(4)
	for range 2000 {
		all = append(all, c.number(40, api.MaxExp))
	}
	for _, d := range all {
		s, e := Text(d)
		if e != api.OK {
			t.Fatalf("Text(%s, %d): %d", cut(d.Digits), d.Exp, e)
		}
		if back, e := Parse(s); e != api.OK || back != d {
			t.Errorf("Parse(%s) = %s, %d, error %d", cut(s), cut(back.Digits), back.Exp, e)
		}
	}
}

// P3.5: whatever texts a number has, it is one struct; and numbers that compare as 0 are the same.
func TestOneForm(t *testing.T) {
	groups := [][]string{
		{"0", "-0", "0.0", "-0.000e-7", "0e1000001"},
		{"1", "1.0", "10e-1", "0.1e1", "0.001E+3", "1e0", "100e-02", "1.00e-0"},
		{"-1", "-1.0", "-10e-1"},
		{"1500", "15e2", "1.5e3", "1.50E3", "150e+1", "0.15e4"},
		{"0.015", "15e-3", "1.5e-2", "1500e-5"},
	}
	for i, group := range groups {
		for k, other := range groups {
			for _, s := range group {
				for _, r := range other {
					a, b := num(t, s), num(t, r)
					order, e := Compare(a, b)
					if e != api.OK || (order == 0) != (i == k) || (a == b) != (i == k) {
						t.Errorf("%s and %s: %v, %v, compared as %d, %d", s, r, a, b, order, e)
					}
				}
			}
		}
	}
	c := chance(5)
	for range 20000 {
		a, b := c.number(2, 1), c.number(2, 1)
		if order, e := Compare(a, b); e != api.OK || (order == 0) != (a == b) {
			t.Fatalf("Compare(%v, %v) = %d, %d", a, b, order, e)
		}
	}
}

// P3.5: sums of multiples are multiples, and sums of one and of what is none are none.
func TestSumsOfMultiples(t *testing.T) {
	c := chance(6)
	for range 5000 {
		b := api.Dec{Digits: c.digits(1 + c.below(3)), Exp: c.below(5) - 2}
		times := func() *big.Rat {
			return new(big.Rat).Mul(ratio(b), big.NewRat(int64(c.below(2001)-1000), 1))
		}
		x, y, other := times(), times(), ratio(c.number(4, 2))
		sum := num(t, new(big.Rat).Add(x, y).FloatString(4))
		if ok, e := Multiple(sum, b); !ok || e != api.OK {
			t.Fatalf("Multiple(%v, %v) = %t, %d", sum, b, ok, e)
		}
		alone, _ := Multiple(num(t, other.FloatString(4)), b)
		with, e := Multiple(num(t, new(big.Rat).Add(x, other).FloatString(4)), b)
		if e != api.OK || alone != with {
			t.Fatalf("%v is %t a multiple of %v, with %v it is %t, %d", other, alone, b, x, with, e)
		}
	}
}

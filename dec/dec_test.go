package dec_test

import (
	"math"
	"math/big"
	"regexp"
	"strings"
	"testing"

	"auklet/api"
	"auklet/dec"
)

const (
	one   = api.One
	most  = math.MaxInt64
	least = math.MinInt64
)

type reckoning func(a, b int64) (int64, api.Errno)

// edges are the numbers at which something changes: 0, a millionth, one, halves of the width, the ends.
func edges() []int64 {
	l := []int64{0}
	for _, n := range []int64{1, 2, 3, 7, 10, 499999, 500000, 500001, 999999, one, one + 1, 1500000, 2500000, 3 * one, 1 << 31, 1 << 32, 1<<32 + 1, 3037000499, 3037000500, 3036999999999, 3037000499976, 3037000500000, 9223372036854, 9223372036855, 1 << 52, 1 << 62, 1<<62 + 1, most/10 + 1, most / 2, 9223372036854 * one, most - one, most - 1, most} {
		l = append(l, n, -n)
	}
	return append(l, least, least+2, least/2-1)
}

// mixed are numbers of all sizes, the same ones each time.
func mixed(many int) []int64 {
	l, state := []int64{}, uint64(88172645463325252)
	for i := range many {
		state ^= state << 13
		state ^= state >> 7
		state ^= state << 17
		l = append(l, int64(state)>>(i%64))
	}
	return l
}

func bigOf(n int64) *big.Int { return big.NewInt(n) }

// fit is what a call should answer that comes to n.
func fit(n *big.Int) (int64, api.Errno) {
	if !n.IsInt64() {
		return 0, api.ErrOver
	}
	return n.Int64(), api.OK
}

func holdPair(t *testing.T, name string, f reckoning, a, b, n int64, e api.Errno) {
	t.Helper()
	if m, g := f(a, b); m != n || g != e {
		t.Fatalf("%s(%d, %d): %d, %d; want %d, %d", name, a, b, m, g, n, e)
	}
}

// holdAll holds the call against the big number that want tells, at all pairs of edges, and at mixed ones.
func holdAll(t *testing.T, name string, f reckoning, want func(a, b int64) (int64, api.Errno)) {
	t.Helper()
	l := edges()
	for _, a := range l {
		for _, b := range l {
			n, e := want(a, b)
			holdPair(t, name, f, a, b, n, e)
		}
	}
	m := mixed(4001)
	for i, a := range m {
		b := m[(i*7+5)%len(m)]
		n, e := want(a, b)
		holdPair(t, name, f, a, b, n, e)
	}
}

// P1.1: the sum, the difference, minus a, and ErrOver.
func TestSums(t *testing.T) {
	for _, x := range []struct{ a, b, n int64 }{{0, 0, 0}, {1, 2, 3}, {one, -one, 0}, {most, 0, most}, {most - 1, 1, most}, {least + 1, -1, least}, {least, most, -1}} {
		holdPair(t, "Add", dec.Add, x.a, x.b, x.n, api.OK)
		holdPair(t, "Add", dec.Add, x.b, x.a, x.n, api.OK)
		holdPair(t, "Sub", dec.Sub, x.n, x.b, x.a, api.OK)
	}
	for _, x := range [][2]int64{{most, 1}, {1, most}, {most, most}, {least, -1}, {-1, least}, {least, least}} {
		holdPair(t, "Add", dec.Add, x[0], x[1], 0, api.ErrOver)
	}
	for _, x := range [][2]int64{{most, -1}, {0, least}, {least, 1}, {-2, most}, {most, least}} {
		n, e := fit(new(big.Int).Sub(bigOf(x[0]), bigOf(x[1])))
		holdPair(t, "Sub", dec.Sub, x[0], x[1], n, e)
	}
	holdAll(t, "Add", dec.Add, func(a, b int64) (int64, api.Errno) { return fit(new(big.Int).Add(bigOf(a), bigOf(b))) })
	holdAll(t, "Sub", dec.Sub, func(a, b int64) (int64, api.Errno) { return fit(new(big.Int).Sub(bigOf(a), bigOf(b))) })
}

// P1.1: minus a.
func TestNeg(t *testing.T) {
	if n, e := dec.Neg(least); n != 0 || e != api.ErrOver {
		t.Error(n, e)
	}
	for _, a := range append(edges(), mixed(200)...) {
		n, e := dec.Neg(a)
		if m, g := fit(new(big.Int).Neg(bigOf(a))); n != m || e != g {
			t.Error(a, n, e)
		}
	}
}

// P1.1: the product, cut off towards 0.
func TestMul(t *testing.T) {
	for _, x := range []struct {
		a, b, n int64
		e       api.Errno
	}{
		{1500000, 2500000, 3750000, api.OK},
		{-1500000, 2500000, -3750000, api.OK},
		{-1500000, -2500000, 3750000, api.OK},
		{1, 999999, 0, api.OK},
		{-1, 999999, 0, api.OK},
		{-3, 500000, -1, api.OK},
		{1, one, 1, api.OK},
		{most, one, most, api.OK},
		{least, one, least, api.OK},
		{least, -one, 0, api.ErrOver},
		{most, one + 1, 0, api.ErrOver},
		{most, most, 0, api.ErrOver},
		{least, least, 0, api.ErrOver},
		{least, 0, 0, api.OK},
		{1 << 62, 2 * one, 0, api.ErrOver},
		{1 << 62, -2 * one, least, api.OK},
		{4611686018427387903, 2*one + 1, 0, api.ErrOver},
	} {
		holdPair(t, "Mul", dec.Mul, x.a, x.b, x.n, x.e)
		holdPair(t, "Mul", dec.Mul, x.b, x.a, x.n, x.e)
	}
	holdAll(t, "Mul", dec.Mul, func(a, b int64) (int64, api.Errno) {
		n := new(big.Int).Mul(bigOf(a), bigOf(b))
		return fit(n.Quo(n, bigOf(one)))
	})
}

// lastBelow is the greatest a of which a times up, by down, cut off, is at most top.
func lastBelow(top *big.Int, up, down int64) (int64, bool) {
	n := new(big.Int).Add(top, bigOf(1))
	n.Mul(n, bigOf(down)).Sub(n, bigOf(1)).Quo(n, bigOf(up))
	return n.Int64(), n.IsInt64() && n.Int64() < most
}

// P1.1: whether it is an int64 is asked of what is left when the rest is cut off.
func TestCutFirst(t *testing.T) {
	highest, lowest := bigOf(most), new(big.Int).Neg(bigOf(least))
	for _, b := range edges() {
		if b <= 0 {
			continue
		}
		hold := func(name string, f reckoning, up, down int64) {
			if a, ok := lastBelow(highest, up, down); ok {
				n, e := fit(new(big.Int).Quo(new(big.Int).Mul(bigOf(a), bigOf(up)), bigOf(down)))
				holdPair(t, name, f, a, b, n, e)
				holdPair(t, name, f, -a, -b, n, api.OK)
				holdPair(t, name, f, a+1, b, 0, api.ErrOver)
				holdPair(t, name, f, -a-1, -b, 0, api.ErrOver)
			}
			if a, ok := lastBelow(lowest, up, down); ok {
				n, e := fit(new(big.Int).Quo(new(big.Int).Mul(bigOf(-a), bigOf(up)), bigOf(down)))
				holdPair(t, name, f, -a, b, n, e)
				holdPair(t, name, f, a, -b, n, api.OK)
				holdPair(t, name, f, -a-1, b, 0, api.ErrOver)
				holdPair(t, name, f, a+1, -b, 0, api.ErrOver)
			}
		}
		hold("Mul", dec.Mul, b, one)
		hold("Div", dec.Div, one, b)
	}
}

// P1.1: the quotient, cut off towards 0, and ErrZero.
func TestDiv(t *testing.T) {
	for _, x := range []struct {
		a, b, n int64
		e       api.Errno
	}{
		{one, 3 * one, 333333, api.OK},
		{-one, 3 * one, -333333, api.OK},
		{one, -3 * one, -333333, api.OK},
		{-2 * one, -3 * one, 666666, api.OK},
		{0, 7, 0, api.OK},
		{0, least, 0, api.OK},
		{1, one + 1, 0, api.OK},
		{1, 0, 0, api.ErrZero},
		{0, 0, 0, api.ErrZero},
		{least, 0, 0, api.ErrZero},
		{most, one, most, api.OK},
		{least, one, least, api.OK},
		{least, -one, 0, api.ErrOver},
		{most, -one, -most, api.OK},
		{most, one - 1, 0, api.ErrOver},
		{most, 1, 0, api.ErrOver},
		{least, 1, 0, api.ErrOver},
		{least, least, one, api.OK},
		{9223372036854, 1, 9223372036854 * one, api.OK},
		{9223372036855, 1, 0, api.ErrOver},
		{-9223372036855, -1, 0, api.ErrOver},
	} {
		holdPair(t, "Div", dec.Div, x.a, x.b, x.n, x.e)
	}
	holdAll(t, "Div", dec.Div, func(a, b int64) (int64, api.Errno) {
		if b == 0 {
			return 0, api.ErrZero
		}
		n := new(big.Int).Mul(bigOf(a), bigOf(one))
		return fit(n.Quo(n, bigOf(b)))
	})
}

// P1.1: what is left, and ErrZero; OK also where the quotient is too great.
func TestMod(t *testing.T) {
	for _, x := range []struct {
		a, b, n int64
		e       api.Errno
	}{
		{7500000, 2000000, 1500000, api.OK},
		{-7500000, 2000000, -1500000, api.OK},
		{7500000, -2000000, 1500000, api.OK},
		{-7500000, -2000000, -1500000, api.OK},
		{5, 7, 5, api.OK},
		{0, 7, 0, api.OK},
		{7, 0, 0, api.ErrZero},
		{least, 0, 0, api.ErrZero},
		{least, -1, 0, api.OK},
		{most, 1, 0, api.OK},
		{least, most, -1, api.OK},
		{most, least, most, api.OK},
	} {
		holdPair(t, "Mod", dec.Mod, x.a, x.b, x.n, x.e)
	}
	holdAll(t, "Mod", dec.Mod, func(a, b int64) (int64, api.Errno) {
		if b == 0 {
			return 0, api.ErrZero
		}
		times := new(big.Int).Quo(bigOf(a), bigOf(b))
		return fit(times.Sub(bigOf(a), times.Mul(times, bigOf(b))))
	})
}

// P1.2: the whole part, towards 0.
func TestInt(t *testing.T) {
	for a, n := range map[int64]int64{0: 0, 1: 0, -1: 0, 999999: 0, -999999: 0, one: one, -one: -one, 1999999: one, -1999999: -one, most: 9223372036854 * one, least: -9223372036854 * one} {
		if m := dec.Int(a); m != n {
			t.Error(a, m, n)
		}
	}
	for _, a := range append(edges(), mixed(500)...) {
		n := new(big.Int).Quo(bigOf(a), bigOf(one))
		if n.Mul(n, bigOf(one)); dec.Int(a) != n.Int64() {
			t.Error(a, dec.Int(a))
		}
	}
}

// P1.2: n ones, and ErrOver.
func TestWhole(t *testing.T) {
	for n, want := range map[int64]int64{0: 0, 1: one, -1: -one, 9223372036854: 9223372036854 * one, -9223372036854: -9223372036854 * one} {
		if m, e := dec.Whole(n); m != want || e != api.OK {
			t.Error(n, m, e)
		}
	}
	for _, n := range []int64{9223372036855, -9223372036855, most, least} {
		if m, e := dec.Whole(n); m != 0 || e != api.ErrOver {
			t.Error(n, m, e)
		}
	}
	for _, n := range append(edges(), mixed(500)...) {
		m, e := dec.Whole(n)
		if want, f := fit(new(big.Int).Mul(bigOf(n), bigOf(one))); m != want || e != f {
			t.Error(n, m, e)
		}
	}
}

type reading struct {
	n  int64
	at int
	e  api.Errno
}

// P1.3: numbers at the beginning of texts, and texts that begin with none.
func TestParse(t *testing.T) {
	for s, want := range map[string]reading{
		"":                           {},
		" ":                          {},
		" \t\n":                      {},
		"x":                          {},
		"+":                          {},
		"-":                          {},
		".":                          {},
		"-.":                         {},
		" + 1":                       {},
		"+-1":                        {},
		"--1":                        {},
		"- 1":                        {},
		". 5":                        {},
		"..5":                        {},
		"\r1":                        {},
		"\v1":                        {},
		"\f1":                        {},
		"\x001":                      {},
		"\u00a01":                    {},
		"\u0663":                     {},
		"e5":                         {},
		"inf":                        {},
		"NaN":                        {},
		"/5":                         {},
		":5":                         {},
		",5":                         {},
		"0":                          {0, 1, api.OK},
		"-0":                         {0, 2, api.OK},
		"+0.0":                       {0, 4, api.OK},
		"5":                          {5 * one, 1, api.OK},
		"+5":                         {5 * one, 2, api.OK},
		" -.5x":                      {-500000, 4, api.OK},
		" \t\n\n 12 ":                {12 * one, 7, api.OK},
		"1.":                         {one, 2, api.OK},
		"1..2":                       {one, 2, api.OK},
		"1.2.3":                      {1200000, 3, api.OK},
		".5.":                        {500000, 2, api.OK},
		"1.-2":                       {one, 2, api.OK},
		"1-2":                        {one, 1, api.OK},
		"1e3":                        {one, 1, api.OK},
		"0x10":                       {0, 1, api.OK},
		"1_000":                      {one, 1, api.OK},
		"1,5":                        {one, 1, api.OK},
		"1\x00":                      {one, 1, api.OK},
		"1/":                         {one, 1, api.OK},
		"1:":                         {one, 1, api.OK},
		"1.5:":                       {1500000, 3, api.OK},
		"007.0000009":                {7 * one, 11, api.OK},
		"0.000001":                   {1, 8, api.OK},
		"-0.0000019":                 {-1, 10, api.OK},
		"-.0000009":                  {0, 9, api.OK},
		"1.1234569":                  {1123456, 9, api.OK},
		"9223372036854.775807":       {most, 20, api.OK},
		"9223372036854.7758079999":   {most, 24, api.OK},
		"-9223372036854.775808":      {least, 21, api.OK},
		"-9223372036854.77580899":    {least, 23, api.OK},
		"9223372036854.775808":       {0, 20, api.ErrOver},
		"-9223372036854.775809":      {0, 21, api.ErrOver},
		" 9223372036855y":            {0, 14, api.ErrOver},
		"18446744073709.551616":      {0, 21, api.ErrOver},
		"18446744073709.551617":      {0, 21, api.ErrOver},
		"18446744073710":             {0, 14, api.ErrOver},
		"-36893488147419.103232 9":   {0, 22, api.ErrOver},
		"99999999999999999999":       {0, 20, api.ErrOver},
		"99999999999999999999.5.5":   {0, 22, api.ErrOver},
		"000000000000000000000000.5": {500000, 26, api.OK},
	} {
		if n, at, e := dec.Parse(s); n != want.n || at != want.at || e != want.e {
			t.Errorf("%q: %d, %d, %d; want %v", s, n, at, e, want)
		}
	}
}

// P1.3: a text may be long: its end counts, and so does what is too great.
func TestParseLong(t *testing.T) {
	const many = 100000
	nines, noughts := strings.Repeat("9", many), strings.Repeat("0", many)
	for s, want := range map[string]reading{
		nines + "x":                          {0, many, api.ErrOver},
		"-" + nines + "." + nines:            {0, 2*many + 2, api.ErrOver},
		noughts + "1." + nines + "e":         {1999999, 2*many + 2, api.OK},
		"-" + noughts + "." + noughts:        {0, 2*many + 2, api.OK},
		"1" + noughts:                        {0, many + 1, api.ErrOver},
		strings.Repeat(" \t\n", many) + "-1": {-one, 3*many + 2, api.OK},
		strings.Repeat("\n", many):           {},
	} {
		if n, at, e := dec.Parse(s); n != want.n || at != want.at || e != want.e {
			t.Errorf("%.20q of %d bytes: %d, %d, %d; want %v", s, len(s), n, at, e, want)
		}
	}
}

// parseOracle reads a number by a pattern, and reckons it as a fraction.
func parseOracle(form *regexp.Regexp, s string) (int64, int, api.Errno) {
	m := form.FindStringSubmatch(s)
	if m == nil {
		return 0, 0, api.OK
	}
	whole, part, _ := strings.Cut(m[2], ".")
	n, _ := new(big.Int).SetString("0"+whole+(part + "000000")[:6], 10)
	if m[1] == "-" {
		n.Neg(n)
	}
	value, e := fit(n)
	return value, len(m[0]), e
}

// P1.3: all short texts of the bytes that numbers are made of, and some others.
func TestParseAll(t *testing.T) {
	form := regexp.MustCompile(`^[ \t\n]*([+-]?)([0-9]+\.?[0-9]*|\.[0-9]+)`)
	const bytes = " \n+-.09x"
	hold := func(s string) {
		n, at, e := dec.Parse(s)
		if m, to, f := parseOracle(form, s); n != m || at != to || e != f {
			t.Errorf("%q: %d, %d, %d; want %d, %d, %d", s, n, at, e, m, to, f)
		}
	}
	var walk func(s string)
	walk = func(s string) {
		hold(s)
		if len(s) < 5 {
			for _, c := range bytes {
				walk(s + string(c))
			}
		}
	}
	walk("")
	for _, a := range append(edges(), mixed(500)...) {
		s := new(big.Int).Mul(bigOf(a), bigOf(3)).String()
		for i := range len(s) {
			hold(s[:i] + "." + s[i:])
		}
	}
}

// P1.4: numbers as texts.
func TestShow(t *testing.T) {
	for a, want := range map[int64]string{
		0: "0", 1: "0.000001", -1: "-0.000001", 10: "0.00001", 100000: "0.1", -500000: "-0.5", 999999: "0.999999",
		one: "1", -one: "-1", 10 * one: "10", 100 * one: "100", 1230000: "1.23", 1000001: "1.000001", 1010100: "1.0101", -10500000: "-10.5",
		most: "9223372036854.775807", least: "-9223372036854.775808", 9223372036854 * one: "9223372036854",
	} {
		if s := dec.Show(a); s != want {
			t.Errorf("%d: %q, want %q", a, s, want)
		}
	}
	form := regexp.MustCompile(`^-?(0|[1-9][0-9]*)(\.[0-9]{0,5}[1-9])?$`)
	for _, a := range append(edges(), mixed(2000)...) {
		s := dec.Show(a)
		r, ok := new(big.Rat).SetString(s)
		if !ok || !form.MatchString(s) || r.Cmp(big.NewRat(a, one)) != 0 {
			t.Errorf("%d: %q", a, s)
		}
	}
}

// P1.5: Parse of Show is a, and all of the text.
func TestThereAndBack(t *testing.T) {
	for _, a := range append(edges(), mixed(5000)...) {
		s := dec.Show(a)
		for _, behind := range []string{"", "x", " 1", "-", "e1"} {
			if n, at, e := dec.Parse(s + behind); n != a || at != len(s) || e != api.OK {
				t.Fatal(a, s, behind, n, at, e)
			}
		}
	}
}

// P1.6: products and quotients keep the order.
func TestOrder(t *testing.T) {
	l := append(edges(), mixed(60)...)
	kept := func(name string, f reckoning, a, b, c int64) {
		x, e := f(a, c)
		y, g := f(b, c)
		if e == api.OK && g == api.OK && x > y {
			t.Fatalf("%s by %d: of %d %d, of %d %d", name, c, a, x, b, y)
		}
	}
	for _, a := range l {
		for _, b := range l {
			for _, c := range l {
				if a < b && c > 0 {
					kept("Mul", dec.Mul, a, b, c)
					kept("Div", dec.Div, a, b, c)
				}
			}
		}
	}
}

// P1.7: the whole part of the quotient times b, and the rest, are a.
func TestRest(t *testing.T) {
	l, held := append(edges(), mixed(300)...), 0
	for _, a := range l {
		for _, b := range l {
			quotient, e := dec.Div(a, b)
			if e != api.OK {
				continue
			}
			rest, e := dec.Mod(a, b)
			taken, f := dec.Mul(dec.Int(quotient), b)
			sum, g := dec.Add(taken, rest)
			if sum != a || e != api.OK || f != api.OK || g != api.OK {
				t.Fatal(a, b, quotient, rest, sum, e, f, g)
			}
			held++
		}
	}
	if held < len(l)*len(l)/4 {
		t.Error("too few pairs have a quotient:", held)
	}
}

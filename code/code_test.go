package code_test

import (
	"math"
	"slices"
	"strings"
	"testing"

	"auklet/api"
	"auklet/cell"
	"auklet/code"
)

// one is the number 1.
const one = api.One

// great is a text whose number is too great.
const great = "9223372036854.775808"

// c is a cell: of an int the Number of so many ones, of an int64 that of so many millionths, of a text the Text, of nil Nothing, of a cell itself.
func c(v any) api.Cell {
	switch x := v.(type) {
	case nil:
		return api.Cell{}
	case int:
		return api.Cell{K: api.Number, N: int64(x) * one}
	case int64:
		return api.Cell{K: api.Number, N: x}
	case string:
		return api.Cell{K: api.Text, S: x}
	case api.Cell:
		return x
	}
	panic("no cell")
}

// l are cells, each as c says.
func l(values ...any) []api.Cell {
	var all []api.Cell
	for _, v := range values {
		all = append(all, c(v))
	}
	return all
}

// looks is a text that looks like the number of n millionths.
func looks(s string, n int64) api.Cell { return api.Cell{K: api.Looks, N: n, S: s} }

// millionths is the Number of so many.
func millionths(n int64) api.Cell { return c(n) }

// reckoners and comparers are Two's signs: together they are all.
func reckoners() []string { return []string{"+", "-", "*", "/", "%"} }
func comparers() []string { return []string{"<", "<=", "==", "!=", ">", ">="} }

// strange are signs that neither Two nor One has.
func strange() []string {
	return []string{"", " ", "=", "===", "=<", "=>", "<>", "<<", "<=>", "!==", "~", "!~", "&&", "||", "++", "--", "+=", "%=", "^", "**", "//", "+ ", " +", "+\x00", "<\n", "in", "add", "\xff", "－", strings.Repeat("<", 1000)}
}

// P15.1: sums, differences, products, quotients, rests of all kinds of cells.
func TestTwoReckons(t *testing.T) {
	for _, x := range []struct {
		sign string
		a, b any
		want int64
	}{
		{"+", "3x", 1, 4 * one},
		{"+", int64(1500000), int64(2500000), 4 * one},
		{"+", nil, 5, 5 * one},
		{"+", nil, nil, 0},
		{"+", looks(" 10 ", 10*one), " 2.5z", 12500000},
		{"+", "abc", "", 0},
		{"+", int64(math.MaxInt64 - 1), int64(1), math.MaxInt64},
		{"+", int64(math.MinInt64), int64(math.MaxInt64), -1},
		{"+", "9223372036854.775807", "-9223372036854.775808", -1},
		{"-", 7, 10, -3 * one},
		{"-", "7", looks("10", 10*one), -3 * one},
		{"-", nil, "\t-2", 2 * one},
		{"-", int64(-1), int64(math.MaxInt64), math.MinInt64},
		{"-", int64(math.MinInt64), int64(math.MinInt64), 0},
		{"*", int64(1500000), int64(2500000), 3750000},
		{"*", "-1.5.5", "+2e3", -3 * one},
		{"*", int64(1), int64(999999), 0},
		{"*", int64(-1), int64(999999), 0},
		{"*", nil, int64(math.MinInt64), 0},
		{"*", int64(math.MinInt64), 1, math.MinInt64},
		{"/", 1, 3, 333333},
		{"/", -2, 3, -666666},
		{"/", looks("7", 7*one), "2", 3500000},
		{"/", nil, 5, 0},
		{"/", int64(math.MinInt64), 1, math.MinInt64},
		{"%", 7, 3, one},
		{"%", -7, 3, -one},
		{"%", 7, -3, one},
		{"%", "5.5", 2, 1500000},
		{"%", int64(math.MinInt64), int64(-1), 0},
		{"%", nil, int64(math.MinInt64), 0},
	} {
		if v, e := code.Two(x.sign, c(x.a), c(x.b)); v != millionths(x.want) || e != api.OK {
			t.Errorf("Two(%q, %v, %v): %v, %v, not the Number %d", x.sign, x.a, x.b, v, e, x.want)
		}
	}
}

// P15.1: what can't be reckoned is the zero cell: a's error comes first, then b's, then that of both.
func TestTwoRefuses(t *testing.T) {
	for _, x := range []struct {
		sign string
		a, b any
		e    api.Errno
	}{
		{"+", int64(math.MaxInt64), int64(1), api.ErrOver},
		{"+", int64(math.MinInt64), "-.000001", api.ErrOver},
		{"-", int64(math.MinInt64), int64(1), api.ErrOver},
		{"-", nil, int64(math.MinInt64), api.ErrOver},
		{"*", int64(math.MaxInt64), 2, api.ErrOver},
		{"*", 4000000, -4000000, api.ErrOver},
		{"/", int64(math.MinInt64), -1, api.ErrOver},
		{"/", int64(math.MaxInt64), int64(1), api.ErrOver},
		{"/", 1, 0, api.ErrZero},
		{"/", 0, 0, api.ErrZero},
		{"/", 1, nil, api.ErrZero},
		{"/", 1, "", api.ErrZero},
		{"/", "7", "x1", api.ErrZero},
		{"/", 1, looks("0.0", 0), api.ErrZero},
		{"/", int64(math.MinInt64), "-0", api.ErrZero},
		{"%", 1, 0, api.ErrZero},
		{"%", nil, nil, api.ErrZero},
		{"%", int64(math.MaxInt64), ".0000009", api.ErrZero},
		{"/", great, 0, api.ErrOver},
		{"%", great + " and more", nil, api.ErrOver},
		{"/", 1, great, api.ErrOver},
		{"%", 0, "-9223372036854.775809", api.ErrOver},
		{"+", great, 0, api.ErrOver},
		{"-", great, great, api.ErrOver},
		{"*", 0, great, api.ErrOver},
		{"*", " \t\n-99999999999999999999", 0, api.ErrOver},
	} {
		if v, e := code.Two(x.sign, c(x.a), c(x.b)); v != (api.Cell{}) || e != x.e {
			t.Errorf("Two(%q, %v, %v): %v, %v, not %v", x.sign, x.a, x.b, v, e, x.e)
		}
	}
}

// P15.1: whether two cells stand so, by each of the signs.
func TestTwoCompares(t *testing.T) {
	signs := map[int][]int{-1: {1, 1, 0, 1, 0, 0}, 0: {0, 1, 1, 0, 0, 1}, 1: {0, 0, 0, 1, 1, 1}}
	for _, x := range []struct {
		a, b any
		is   int
	}{
		{1, 2, -1},
		{2, 1, 1},
		{2, 2, 0},
		{9, 10, -1},
		{"9", "10", 1},
		{"9", 10, 1},
		{9, "10", 1},
		{looks("9", 9*one), looks("10", 10*one), -1},
		{looks(" 10 ", 10*one), 9, 1},
		{looks("10", 10*one), looks("1e1", one), 1},
		{looks("1.0", one), looks("1", one), 0},
		{looks("1.0", one), 1, 0},
		{looks("1.0", one), "1", 1},
		{nil, nil, 0},
		{nil, 0, 0},
		{nil, looks("-1", -one), 1},
		{nil, "", 0},
		{nil, "a", -1},
		{"", 0, -1},
		{"a", "a", 0},
		{"a", "b", -1},
		{"a", "ab", -1},
		{"B", "a", -1},
		{"\xff", "é", 1},
		{"0.5", int64(500000), 0},
		{".5", int64(500000), -1},
		{int64(math.MinInt64), int64(math.MaxInt64), -1},
		{great, great, 0},
		{great, 1, 1},
		{great, int64(math.MaxInt64), 1},
	} {
		for i, sign := range comparers() {
			want := c(signs[x.is][i])
			if v, e := code.Two(sign, c(x.a), c(x.b)); v != want || e != api.OK {
				t.Errorf("Two(%q, %v, %v): %v, %v, not %v", sign, x.a, x.b, v, e, want)
			}
		}
	}
}

// P15.1: other signs are refused, whatever the cells are.
func TestTwoOtherSigns(t *testing.T) {
	for _, sign := range append(strange(), "!", "*+", "<==") {
		for _, x := range [][]api.Cell{l(nil, nil), l(1, 2), l("a", "b"), l(great, 1), l(1, great), l(1, 0), l(int64(math.MaxInt64), int64(math.MaxInt64))} {
			if v, e := code.Two(sign, x[0], x[1]); v != (api.Cell{}) || e != api.ErrArg {
				t.Errorf("Two(%q, %v): %v, %v", sign, x, v, e)
			}
		}
	}
}

// P15.1: what is not true, what is below, and a number as it is, of all kinds of cells.
func TestOne(t *testing.T) {
	for _, x := range []struct {
		a                any
		not, minus, plus int64
	}{
		{nil, one, 0, 0},
		{0, one, 0, 0},
		{1, 0, -one, one},
		{-7, 0, 7 * one, -7 * one},
		{int64(1), 0, -1, 1},
		{int64(math.MaxInt64), 0, -math.MaxInt64, math.MaxInt64},
		{"", one, 0, 0},
		{" ", 0, 0, 0},
		{"0", 0, 0, 0},
		{"a", 0, 0, 0},
		{"-3x", 0, 3 * one, -3 * one},
		{" +1.5", 0, -1500000, 1500000},
		{looks("0", 0), one, 0, 0},
		{looks(" -0.0 ", 0), one, 0, 0},
		{looks("2.5", 2500000), 0, -2500000, 2500000},
	} {
		for i, want := range []int64{x.not, x.minus, x.plus} {
			sign := "!-+"[i : i+1]
			if v, e := code.One(sign, c(x.a)); v != millionths(want) || e != api.OK {
				t.Errorf("One(%q, %v): %v, %v, not the Number %d", sign, x.a, v, e, want)
			}
		}
	}
}

// P15.1: what is too great has no number, and is not below either, but it is true; other signs are refused.
func TestOneRefuses(t *testing.T) {
	for _, x := range []struct {
		sign string
		a    any
		e    api.Errno
	}{
		{"-", int64(math.MinInt64), api.ErrOver},
		{"-", "-9223372036854.775808", api.ErrOver},
		{"-", great, api.ErrOver},
		{"-", "-9223372036854.7758089", api.ErrOver},
		{"+", great, api.ErrOver},
		{"+", "99999999999999999999x", api.ErrOver},
	} {
		if v, e := code.One(x.sign, c(x.a)); v != (api.Cell{}) || e != x.e {
			t.Errorf("One(%q, %v): %v, %v, not %v", x.sign, x.a, v, e, x.e)
		}
	}
	if v, e := code.One("!", c(great)); v != c(0) || e != api.OK {
		t.Errorf("not %s: %v, %v", great, v, e)
	}
	if v, e := code.One("+", c(int64(math.MinInt64))); v != c(int64(math.MinInt64)) || e != api.OK {
		t.Errorf("the least: %v, %v", v, e)
	}
	for _, sign := range slices.Concat(strange(), comparers(), []string{"*", "/", "%", "!!", "--", "- ", "not"}) {
		for _, a := range l(nil, 1, "a", great, int64(math.MinInt64)) {
			if v, e := code.One(sign, a); v != (api.Cell{}) || e != api.ErrArg {
				t.Errorf("One(%q, %v): %v, %v", sign, a, v, e)
			}
		}
	}
}

// P15.1: 1 is true, 0 is not.
func TestBool(t *testing.T) {
	if v := code.Bool(true); v != c(1) {
		t.Errorf("true: %v", v)
	}
	if v := code.Bool(false); v != c(0) {
		t.Errorf("false: %v", v)
	}
}

// P15.2: the texts of two cells, as a Text, whatever they look like.
func TestJoin(t *testing.T) {
	for _, x := range []struct {
		a, b any
		want string
	}{
		{"a", "b", "ab"},
		{nil, nil, ""},
		{nil, "b", "b"},
		{"a", nil, "a"},
		{1, 2, "12"},
		{int64(-1500000), 0, "-1.50"},
		{looks(" 1 ", one), looks("+2.0", 2*one), " 1 +2.0"},
		{"\xc3", "\xa9", "é"},
		{"\x00", "\n", "\x00\n"},
		{great, int64(math.MinInt64), great + "-9223372036854.775808"},
	} {
		if v, e := code.Join(c(x.a), c(x.b)); v != c(x.want) || e != api.OK {
			t.Errorf("Join(%v, %v): %v, %v, not %q", x.a, x.b, v, e, x.want)
		}
	}
}

// P15.2: a joined text has at most MaxText bytes.
func TestJoinBound(t *testing.T) {
	long := func(n int) string { return strings.Repeat("é", n/2) + strings.Repeat("x", n%2) }
	for _, x := range []struct {
		a, b any
		ok   bool
	}{
		{long(65536), nil, true},
		{nil, long(65536), true},
		{long(65535), 7, true},
		{long(32768), long(32768), true},
		{"a", long(65535), true},
		{long(65537), nil, false},
		{nil, long(65537), false},
		{long(65536), 7, false},
		{looks(strings.Repeat(" ", 65535)+"1", one), -1, false},
		{"ab", long(65535), false},
		{long(32768), long(32769), false},
		{long(200000), long(200000), false},
	} {
		a, b := c(x.a), c(x.b)
		v, e := code.Join(a, b)
		want, err := c(cell.Str(a)+cell.Str(b)), api.OK
		if !x.ok {
			want, err = api.Cell{}, api.ErrLong
		}
		if v != want || e != err {
			t.Errorf("Join of %d and %d bytes: %d bytes, %v, not %v", len(cell.Str(a)), len(cell.Str(b)), len(v.S), e, err)
		}
	}
}

// P15.2: subscripts are the texts of all, with a separator between.
func TestKey(t *testing.T) {
	for _, x := range []struct {
		l    []api.Cell
		sep  string
		want string
	}{
		{nil, "-", ""},
		{l(), "-", ""},
		{l(nil), "-", ""},
		{l("a"), "-", "a"},
		{l(1, 2), "\x1c", "1\x1c2"},
		{l("a", "b", "c"), "", "abc"},
		{l("a", "b", "c"), ", ", "a, b, c"},
		{l(nil, nil, nil), "-", "--"},
		{l("", "x", ""), "-", "-x-"},
		{l("-", "-"), "-", "---"},
		{l(int64(-1500000), looks(" 1.0 ", one), "é\xff"), ":", "-1.5: 1.0 :é\xff"},
		{l("1"), "1", "1"},
	} {
		if s, e := code.Key(x.l, x.sep); s != x.want || e != api.OK {
			t.Errorf("Key(%v, %q): %q, %v, not %q", x.l, x.sep, s, e, x.want)
		}
	}
}

// P15.2: a subscript has at most MaxKey bytes, separators among them.
func TestKeyBound(t *testing.T) {
	x := func(n int) string { return strings.Repeat("x", n) }
	for _, y := range []struct {
		l   []api.Cell
		sep string
		ok  bool
	}{
		{l(x(200)), "", true},
		{l(x(200)), x(500), true},
		{l(strings.Repeat("é", 100)), "", true},
		{l(x(100), x(100)), "", true},
		{l(x(99), x(100)), "-", true},
		{l(nil, nil), x(200), true},
		{slices.Repeat(l(nil), 201), "-", true},
		{slices.Repeat(l(nil), 100000), "", true},
		{slices.Repeat(l(7), 100), "-", true},
		{l(x(201)), "", false},
		{l(strings.Repeat("é", 100), "a"), "", false},
		{l(x(100), x(101)), "", false},
		{l(x(100), x(100)), "-", false},
		{l(x(200), nil), "-", false},
		{l(nil, x(200)), "-", false},
		{l(nil, nil), x(201), false},
		{slices.Repeat(l(nil), 202), "-", false},
		{slices.Repeat(l(7), 101), "-", false},
		{slices.Repeat(l(nil), 100000), x(100000), false},
		{l(x(100000), "a"), "-", false},
	} {
		s, e := code.Key(y.l, y.sep)
		if !y.ok {
			if s != "" || e != api.ErrKey {
				t.Errorf("%d cells with %d bytes between: %q, %v", len(y.l), len(y.sep), s, e)
			}
			continue
		}
		if s != joined(y.l, y.sep) || e != api.OK {
			t.Errorf("%d cells with %d bytes between: %q, %v", len(y.l), len(y.sep), s, e)
		}
	}
}

// P15.2: whole parts of all kinds of cells.
func TestCount(t *testing.T) {
	for _, x := range []struct {
		v    any
		want int
	}{
		{nil, 0},
		{0, 0},
		{7, 7},
		{-7, -7},
		{int64(999999), 0},
		{int64(-999999), 0},
		{int64(1999999), 1},
		{int64(-1999999), -1},
		{int64(math.MaxInt64), 9223372036854},
		{int64(math.MinInt64), -9223372036854},
		{"", 0},
		{"abc", 0},
		{" 3.9x", 3},
		{"-3.9", -3},
		{"9223372036854.775807", 9223372036854},
		{"-9223372036854.7758089", -9223372036854},
		{looks(" 12.5 ", 12500000), 12},
	} {
		if n, e := code.Count(c(x.v)); n != x.want || e != api.OK {
			t.Errorf("Count(%v): %d, %v, not %d", x.v, n, e, x.want)
		}
	}
	for _, s := range []string{great, great + "1", "-9223372036854.775809", " 99999999999999999999x"} {
		if n, e := code.Count(c(s)); n != 0 || e != api.ErrOver {
			t.Errorf("Count(%q): %d, %v", s, n, e)
		}
	}
}

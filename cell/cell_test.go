package cell_test

import (
	"math"
	"strings"
	"testing"

	"auklet/api"
	"auklet/cell"
	"auklet/dec"
	"auklet/text"
)

// one is the number 1.
const one = api.One

func number(n int64) api.Cell          { return api.Cell{K: api.Number, N: n} }
func plain(s string) api.Cell          { return api.Cell{K: api.Text, S: s} }
func looks(s string, n int64) api.Cell { return api.Cell{K: api.Looks, N: n, S: s} }

// allOf are all texts of at most so many of the pieces.
func allOf(pieces []string, most int) []string {
	l := []string{""}
	for begin := 0; most > 0; most-- {
		end := len(l)
		for _, s := range l[begin:end] {
			for _, p := range pieces {
				l = append(l, s+p)
			}
		}
		begin = end
	}
	return l
}

// numbers are some, with the edges of what a number can be.
func numbers() []int64 {
	return []int64{0, 1, -1, 9, 10, -10, 99999, 500000, -500000, 999999, one, -one, one + 1, 1500000, 9 * one, 10 * one, -9 * one, -10 * one, 100 * one, 123456789012345, math.MaxInt32, math.MinInt32, math.MaxInt64 - 1, math.MaxInt64, math.MinInt64 + 1, math.MinInt64}
}

// texts are some that look like numbers, and some that don't.
func texts() []string {
	return []string{"", " ", "\t\n", "0", "-0", "00", "1", "+1", "-1", "1.", ".5", ".", "-", "+", "- 1", "1 1", "9", "10", " 10 ", "\t10\n", "010", "10.0", "10x", "x10", "1e3", "0x10", "abc", "a", "b", "ab", "\x00", "\xff", "1\x00", "1\r", "\v1", "1,5", "--1", "1-", "1.5.", "1..5",
		"9223372036854.775807", "9223372036854.775808", "-9223372036854.775808", "-9223372036854.775809", "99999999999999999999", "99999999999999999999x", "0.0000001", "nan", "inf"}
}

// cells are some that can be.
func cells() []api.Cell {
	l := []api.Cell{{}}
	for _, n := range numbers() {
		l = append(l, number(n))
	}
	for _, s := range texts() {
		l = append(l, plain(s), cell.Input(s))
	}
	return l
}

// broken are cells that can't be.
func broken() []api.Cell {
	l := []api.Cell{{N: 1}, {N: -one}, {S: "a"}, {S: "1"}, {N: one, S: "1"}}
	for _, s := range texts() {
		_, is := read(s)
		if s != "" {
			l = append(l, api.Cell{K: api.Number, S: s}, api.Cell{K: api.Number, N: one, S: s})
		}
		l = append(l, api.Cell{K: api.Text, N: 5, S: s}, api.Cell{K: api.Text, N: math.MinInt64, S: s})
		l = append(l, looks(s, 5), looks(s, math.MaxInt64-7))
		if !is {
			l = append(l, looks(s, 0))
		}
		for _, k := range []int{-1, 4, 5, math.MaxInt, math.MinInt} {
			l = append(l, api.Cell{K: k, S: s}, api.Cell{K: k, N: one, S: s})
		}
	}
	return l
}

// read is what P3.1 says of s, in another way than the package: the number, and whether s looks like it.
func read(s string) (int64, bool) {
	for s != "" && strings.ContainsAny(s[:1], " \t\n") {
		s = s[1:]
	}
	for s != "" && strings.ContainsAny(s[len(s)-1:], " \t\n") {
		s = s[:len(s)-1]
	}
	body := strings.TrimPrefix(s, "-")
	if body == s {
		body = strings.TrimPrefix(s, "+")
	}
	digits, points := 0, 0
	for _, c := range []byte(body) {
		switch {
		case '0' <= c && c <= '9':
			digits++
		case c == '.':
			points++
		default:
			return 0, false
		}
	}
	if digits == 0 || points > 1 {
		return 0, false
	}
	n, _, e := dec.Parse(s)
	return n, e == api.OK
}

// P3.1: the Number, and the Text, of whatever it is.
func TestOf(t *testing.T) {
	for _, n := range numbers() {
		if c := cell.OfNum(n); c != number(n) {
			t.Errorf("OfNum(%d): %#v", n, c)
		}
	}
	for _, s := range texts() {
		if c := cell.OfStr(s); c != plain(s) {
			t.Errorf("OfStr(%q): %#v", s, c)
		}
	}
}

// P3.1: texts that look like numbers keep their bytes, and have the number.
func TestInputLooks(t *testing.T) {
	for _, x := range []struct {
		s string
		n int64
	}{
		{" 10 ", 10 * one},
		{"10", 10 * one},
		{"\t\n 10", 10 * one},
		{"10 \n\t", 10 * one},
		{"\n-1.5\n", -1500000},
		{"0", 0},
		{"-0", 0},
		{"+0.0", 0},
		{"007", 7 * one},
		{"+1", one},
		{"-1", -one},
		{".5", 500000},
		{"-.5", -500000},
		{"1.", one},
		{"1.2345678", 1234567},
		{"-1.9999999", -1999999},
		{"0.0000009", 0},
		{"9223372036854.775807", math.MaxInt64},
		{"9223372036854.7758079", math.MaxInt64},
		{"-9223372036854.775808", math.MinInt64},
		{" " + strings.Repeat("0", 1000) + "2 ", 2 * one},
	} {
		if c := cell.Input(x.s); c != looks(x.s, x.n) {
			t.Errorf("Input(%q): %#v, want the Looks %d", x.s, c, x.n)
		}
	}
}

// P3.1: other texts are just texts, with all their bytes.
func TestInputText(t *testing.T) {
	for _, s := range []string{
		"", " ", " \t\n ", "a", "abc", "10x", "x10", " 10 x ", "1 0", "- 1", "+ 1", "+", "-", ".", "+.", "-.", " . ", "--1", "+-1", "1-", "1+", "1..", "1.2.3", "..1", "1e3", "1E3", "0x1f", "1,000", "nan", "inf", "-inf",
		"1\x00", "\x001", "1\r", "\r1", "\v1", "1\f", "1\u00a0", "\u20031", "\u0661", "\xff", "1\xff", "1_0",
		"9223372036854.775808", "9223372036855", "-9223372036854.775809", "-9223372036855", "99999999999999999999999", " 9223372036855 ", strings.Repeat("9", 5000),
	} {
		if c := cell.Input(s); c != plain(s) {
			t.Errorf("Input(%q): %#v, want the Text", s, c)
		}
	}
}

// P3.1: all short texts of blanks, signs, points, digits and others.
func TestInputAll(t *testing.T) {
	for _, s := range allOf([]string{" ", "\t", "\n", "\r", "+", "-", ".", "0", "7", "e", "\x00", "\xa0"}, 5) {
		want := plain(s)
		if n, ok := read(s); ok {
			want = looks(s, n)
		}
		if c := cell.Input(s); c != want {
			t.Fatalf("Input(%q): %#v, want %#v", s, c, want)
		}
		if c := cell.Input(s); !cell.Can(c) {
			t.Fatalf("Can of Input(%q): false", s)
		}
	}
}

// P3.1: what can be, and what can't.
func TestCan(t *testing.T) {
	for i, x := range []struct {
		c    api.Cell
		want bool
	}{
		{api.Cell{}, true},
		{api.Cell{N: 1}, false},
		{api.Cell{S: "a"}, false},
		{api.Cell{S: "0"}, false},
		{number(0), true},
		{number(math.MinInt64), true},
		{api.Cell{K: api.Number, N: one, S: "1"}, false},
		{api.Cell{K: api.Number, S: " "}, false},
		{plain(""), true},
		{plain("10"), true},
		{plain("\xff"), true},
		{api.Cell{K: api.Text, N: 1, S: "a"}, false},
		{api.Cell{K: api.Text, N: 10 * one, S: "10"}, false},
		{looks("10", 10*one), true},
		{looks(" 10 ", 10*one), true},
		{looks("0", 0), true},
		{looks("-.0", 0), true},
		{looks("10", 10), false},
		{looks("10", -10*one), false},
		{looks("10", 0), false},
		{looks("", 0), false},
		{looks(" ", 0), false},
		{looks("abc", 0), false},
		{looks("10x", 10*one), false},
		{looks("x", 10*one), false},
		{looks("9223372036855", 0), false},
		{api.Cell{K: 4}, false},
		{api.Cell{K: -1}, false},
		{api.Cell{K: 4, N: one}, false},
		{api.Cell{K: 4, S: "a"}, false},
		{api.Cell{K: math.MinInt}, false},
		{api.Cell{K: math.MaxInt}, false},
		{api.Cell{K: api.Looks | 1<<32, N: one, S: "1"}, false},
	} {
		if got := cell.Can(x.c); got != x.want {
			t.Errorf("%d: Can(%#v): %#v", i, x.c, got)
		}
	}
	for _, c := range cells() {
		if !cell.Can(c) {
			t.Errorf("Can(%#v): false", c)
		}
	}
	for _, c := range broken() {
		if cell.Can(c) {
			t.Errorf("Can(%#v): true", c)
		}
	}
}

// P3.2: cells as numbers.
func TestNum(t *testing.T) {
	for i, x := range []struct {
		c    api.Cell
		want int64
		e    api.Errno
	}{
		{api.Cell{}, 0, api.OK},
		{number(0), 0, api.OK},
		{number(-7), -7, api.OK},
		{number(math.MinInt64), math.MinInt64, api.OK},
		{number(math.MaxInt64), math.MaxInt64, api.OK},
		{looks("10", 10*one), 10 * one, api.OK},
		{looks(" -1.5 ", -1500000), -1500000, api.OK},
		{plain(""), 0, api.OK},
		{plain("abc"), 0, api.OK},
		{plain("10"), 10 * one, api.OK},
		{plain(" 10 "), 10 * one, api.OK},
		{plain("10x"), 10 * one, api.OK},
		{plain("\n\t -.5.5"), -500000, api.OK},
		{plain("1e3"), one, api.OK},
		{plain("x10"), 0, api.OK},
		{plain("\r1"), 0, api.OK},
		{plain("-"), 0, api.OK},
		{plain("+.x"), 0, api.OK},
		{plain("- 1"), 0, api.OK},
		{plain("9223372036854.775807"), math.MaxInt64, api.OK},
		{plain("9223372036854.775808"), 0, api.ErrOver},
		{plain("-9223372036854.775808 and more"), math.MinInt64, api.OK},
		{plain("-9223372036854.775809"), 0, api.ErrOver},
		{plain("  99999999999999999999x"), 0, api.ErrOver},
		// Cells that can't be are asked as their kind says.
		{api.Cell{N: 7, S: "8"}, 0, api.OK},
		{api.Cell{S: "99999999999999999999"}, 0, api.OK},
		{api.Cell{K: api.Number, N: 7, S: "8"}, 7, api.OK},
		{api.Cell{K: api.Number, N: 7, S: "99999999999999999999"}, 7, api.OK},
		{api.Cell{K: api.Text, N: 7, S: "8"}, 8 * one, api.OK},
		{api.Cell{K: api.Text, N: 7, S: "x"}, 0, api.OK},
		{api.Cell{K: api.Text, N: 7, S: "99999999999999999999"}, 0, api.ErrOver},
		{looks("8", 7), 7, api.OK},
		{looks("99999999999999999999", 7), 7, api.OK},
		{api.Cell{K: 4, N: 7, S: "8"}, 0, api.OK},
		{api.Cell{K: -1, N: 7, S: "8"}, 0, api.OK},
		{api.Cell{K: math.MaxInt, N: 7, S: "99999999999999999999"}, 0, api.OK},
	} {
		if n, e := cell.Num(x.c); n != x.want || e != x.e {
			t.Errorf("%d: Num(%#v): %d, %#v, want %d, %#v", i, x.c, n, e, x.want, x.e)
		}
	}
}

// P3.2: of all short Texts the number at the beginning, as dec reads it.
func TestNumAll(t *testing.T) {
	for _, s := range allOf([]string{" ", "+", "-", ".", "0", "7", "x"}, 5) {
		want, _, e := dec.Parse(s)
		if n, got := cell.Num(plain(s)); n != want || got != e {
			t.Fatalf("Num of the Text %q: %d, %#v, want %d, %#v", s, n, got, want, e)
		}
	}
}

// P3.2: cells as texts.
func TestStr(t *testing.T) {
	for i, x := range []struct {
		c    api.Cell
		want string
	}{
		{api.Cell{}, ""},
		{number(0), "0"},
		{number(-500000), "-0.5"},
		{number(10 * one), "10"},
		{number(1), "0.000001"},
		{number(math.MinInt64), "-9223372036854.775808"},
		{plain(""), ""},
		{plain("abc"), "abc"},
		{plain(" 010 "), " 010 "},
		{plain("a\x00\xff"), "a\x00\xff"},
		{looks(" +10.0 ", 10*one), " +10.0 "},
		{looks("-0", 0), "-0"},
		// Cells that can't be are asked as their kind says.
		{api.Cell{N: 7, S: "8"}, ""},
		{api.Cell{K: api.Number, N: one, S: "8"}, "1"},
		{api.Cell{K: api.Text, N: one, S: "8"}, "8"},
		{looks("8", one), "8"},
		{looks("abc", one), "abc"},
		{looks("", one), ""},
		{api.Cell{K: 4, N: 7, S: "8"}, ""},
		{api.Cell{K: -1, N: 7, S: "8"}, ""},
		{api.Cell{K: math.MinInt, S: "8"}, ""},
	} {
		if s := cell.Str(x.c); s != x.want {
			t.Errorf("%d: Str(%#v): %q, want %q", i, x.c, s, x.want)
		}
	}
}

// P3.2: cells as conditions: a Text "0" is true, a Looks "0" is not.
func TestTruth(t *testing.T) {
	for i, x := range []struct {
		c    api.Cell
		want bool
	}{
		{api.Cell{}, false},
		{number(0), false},
		{number(1), true},
		{number(-1), true},
		{number(math.MinInt64), true},
		{plain(""), false},
		{plain("0"), true},
		{plain(" "), true},
		{plain("\x00"), true},
		{plain("abc"), true},
		{looks("0", 0), false},
		{looks(" -0.0 ", 0), false},
		{looks("0.0000001", 0), false},
		{looks("0.000001", 1), true},
		{looks("10", 10*one), true},
		{cell.Input("0"), false},
		{cell.Input(" "), true},
		{cell.Input(""), false},
		// Cells that can't be are asked as their kind says.
		{api.Cell{N: 7, S: "8"}, false},
		{api.Cell{K: api.Number, S: "8"}, false},
		{api.Cell{K: api.Number, N: 1, S: "0"}, true},
		{api.Cell{K: api.Text, N: 7}, false},
		{api.Cell{K: api.Text, N: 0, S: "a"}, true},
		{looks("8", 0), false},
		{looks("", 1), true},
		{api.Cell{K: 4, N: 7, S: "8"}, false},
		{api.Cell{K: -1, N: 7, S: "8"}, false},
	} {
		if got := cell.Truth(x.c); got != x.want {
			t.Errorf("%d: Truth(%#v): %#v", i, x.c, got)
		}
	}
}

// P3.3: by numbers, if none is a Text; else by texts.
func TestCompare(t *testing.T) {
	for i, x := range []struct {
		a, b api.Cell
		want int
	}{
		{number(9 * one), number(10 * one), -1},
		{number(10 * one), number(9 * one), 1},
		{number(-1), number(-1), 0},
		{number(math.MinInt64), number(math.MaxInt64), -1},
		{looks(" 10 ", 10*one), number(9 * one), 1},
		{looks("10", 10*one), looks("9", 9*one), 1},
		{looks("10", 10*one), looks("+10.0", 10*one), 0},
		{looks("-2", -2*one), looks("-1", -one), -1},
		{plain("10"), plain("9"), -1},
		{plain("10"), plain("10"), 0},
		{plain("b"), plain("ab"), 1},
		{plain("a"), plain("ab"), -1},
		{plain("a\x00"), plain("a"), 1},
		{plain("\xff"), plain("\u00e9"), 1},
		{plain("a"), plain("A"), 1},
		{plain("10"), number(9 * one), -1},
		{plain("10"), number(10 * one), 0},
		{plain("10.0"), number(10 * one), 1},
		{plain(""), number(0), -1},
		{number(-500000), plain("-0.5"), 0},
		{looks("10", 10*one), plain("9"), -1},
		{looks(" 10", 10*one), plain("10"), -1},
		{looks("010", 10*one), plain("010"), 0},
		{looks("0", 0), plain(""), 1},
		// Nothing is 0 with numbers, and the empty text with texts.
		{api.Cell{}, api.Cell{}, 0},
		{api.Cell{}, number(0), 0},
		{api.Cell{}, number(1), -1},
		{api.Cell{}, number(-1), 1},
		{api.Cell{}, looks("-0", 0), 0},
		{api.Cell{}, looks("5", 5*one), -1},
		{api.Cell{}, looks("-5", -5*one), 1},
		{api.Cell{}, plain(""), 0},
		{api.Cell{}, plain("0"), -1},
		{api.Cell{}, plain("-1"), -1},
		// A Text that is too great a number is a text like others.
		{plain("99999999999999999999"), number(one), 1},
		{plain("99999999999999999999"), plain("99999999999999999998x"), 1},
		{plain("99999999999999999999"), api.Cell{}, 1},
		// Cells that can't be are asked as their kind says.
		{api.Cell{N: 7, S: "8"}, number(0), 0},
		{api.Cell{N: 7}, api.Cell{N: 8}, 0},
		{api.Cell{N: 7, S: "8"}, plain(""), 0},
		{looks("8", 1), looks("7", 2), -1},
		{looks("8", 1), plain("7"), 1},
		{api.Cell{K: api.Number, N: 1, S: "8"}, number(2), -1},
		{api.Cell{K: api.Text, N: 9, S: "7"}, plain("8"), -1},
		{api.Cell{K: 4, N: 7, S: "8"}, number(0), 0},
		{api.Cell{K: 4, N: 7, S: "8"}, api.Cell{K: 5, N: 8, S: "9"}, 0},
		{api.Cell{K: -1, N: 7, S: "8"}, plain("0"), -1},
		{api.Cell{K: -1, N: 7, S: "8"}, plain(""), 0},
	} {
		if got := cell.Compare(x.a, x.b); got != x.want {
			t.Errorf("%d: Compare(%#v, %#v): %d, want %d", i, x.a, x.b, got, x.want)
		}
		if got := cell.Compare(x.b, x.a); got != -x.want {
			t.Errorf("%d: Compare(%#v, %#v): %d, want %d", i, x.b, x.a, got, -x.want)
		}
	}
}

// P3.3: all pairs of cells, in another way than the package.
func TestCompareAll(t *testing.T) {
	l := append(cells(), broken()...)
	for _, a := range l {
		for _, b := range l {
			want := 0
			if a.K == api.Text || b.K == api.Text {
				want = text.Compare(cell.Str(a), cell.Str(b))
			} else {
				m, _ := cell.Num(a)
				n, _ := cell.Num(b)
				if m < n {
					want = -1
				} else if m > n {
					want = 1
				}
			}
			if got := cell.Compare(a, b); got != want {
				t.Fatalf("Compare(%#v, %#v): %d, want %d", a, b, got, want)
			}
		}
	}
}

// P3.4: plain values of cells.
func TestAny(t *testing.T) {
	for i, x := range []struct {
		c    api.Cell
		want any
	}{
		{api.Cell{}, nil},
		{number(0), int64(0)},
		{number(-7), int64(-7)},
		{number(math.MinInt64), int64(math.MinInt64)},
		{plain(""), ""},
		{plain("10"), "10"},
		{plain("a\xff"), "a\xff"},
		{looks(" 10 ", 10*one), looks(" 10 ", 10*one)},
		{looks("0", 0), looks("0", 0)},
	} {
		if v := cell.Any(x.c); v != x.want {
			t.Errorf("%d: Any(%#v): %#v, want %#v", i, x.c, v, x.want)
		}
	}
	for _, c := range broken() {
		if v := cell.Any(c); v != nil {
			t.Errorf("Any(%#v): %#v, want nil", c, v)
		}
	}
}

// P3.4: cells of plain values.
func TestFrom(t *testing.T) {
	for i, x := range []struct {
		v    any
		want api.Cell
	}{
		{nil, api.Cell{}},
		{int64(0), number(0)},
		{int64(math.MinInt64), number(math.MinInt64)},
		{"", plain("")},
		{"10", plain("10")},
		{" 10 ", plain(" 10 ")},
		{looks(" 10 ", 10*one), looks(" 10 ", 10*one)},
		{looks("0", 0), looks("0", 0)},
	} {
		if c, ok := cell.From(x.v); c != x.want || !ok {
			t.Errorf("%d: From(%#v): %#v, %#v, want %#v", i, x.v, c, ok, x.want)
		}
	}
}

// P3.4: there is no cell of anything else, nor of a cell that is plain or can't be.
func TestFromNone(t *testing.T) {
	type whole int64
	type name string
	type twin api.Cell
	c, n, s := looks("1", one), int64(1), "a"
	var none *api.Cell
	var fail error
	l := []any{
		int(0), int(1), int32(1), uint64(1), uint8(1), 1.5, true, false, 'a', whole(1), name("a"), twin(c),
		&c, &n, &s, none, []byte("a"), []string{"a"}, [1]int64{1}, map[string]int64{}, struct{}{}, api.OK, api.ErrArg, func() {}, []api.Cell{c}, &fail,
		api.Cell{}, number(0), number(one), plain(""), plain("10"), plain("a"),
	}
	for _, c := range broken() {
		l = append(l, c)
	}
	for i, v := range l {
		if c, ok := cell.From(v); c != (api.Cell{}) || ok {
			t.Errorf("%d: From(%T %#v): %#v, %#v, want none", i, v, v, c, ok)
		}
	}
}

// P3.5: From of Any is the cell.
func TestThereAndBack(t *testing.T) {
	for _, c := range cells() {
		if back, ok := cell.From(cell.Any(c)); back != c || !ok {
			t.Errorf("From of Any of %#v: %#v, %#v", c, back, ok)
		}
	}
	for _, s := range allOf([]string{" ", "-", ".", "0", "7", "x"}, 4) {
		for _, c := range []api.Cell{plain(s), cell.Input(s)} {
			if back, ok := cell.From(cell.Any(c)); back != c || !ok {
				t.Fatalf("From of Any of %#v: %#v, %#v", c, back, ok)
			}
		}
	}
}

// P3.5: Input of Str of a Number is a Looks of the same number.
func TestNumberReadBack(t *testing.T) {
	check := func(n int64) {
		s := cell.Str(cell.OfNum(n))
		if c := cell.Input(s); c != looks(s, n) {
			t.Errorf("Input of Str of the Number %d: %#v", n, c)
		}
	}
	for _, n := range numbers() {
		check(n)
	}
	for n := int64(-2000); n <= 2000; n++ {
		check(n)
		check(n * 1000)
		check(n * one)
		check(n * (math.MaxInt64 / 2000))
	}
}

// P3.6: Compare turned about is less Compare, and of a cell with itself 0.
func TestTurnedAbout(t *testing.T) {
	l := append(cells(), broken()...)
	for _, a := range l {
		for _, b := range l {
			if x, y := cell.Compare(a, b), cell.Compare(b, a); x != -y || x < -1 || x > 1 {
				t.Fatalf("Compare(%#v, %#v): %d, and turned about %d", a, b, x, y)
			}
		}
		if x := cell.Compare(a, a); x != 0 {
			t.Fatalf("Compare(%#v, itself): %d", a, x)
		}
	}
}

// P3.6: of cells that are all numbers, or look like them, Compare is an order.
func TestOrder(t *testing.T) {
	l := []api.Cell{}
	for _, c := range cells() {
		if c.K == api.Number || c.K == api.Looks {
			l = append(l, c)
		}
	}
	for _, a := range l {
		for _, b := range l {
			for _, c := range l {
				x, y, z := cell.Compare(a, b), cell.Compare(b, c), cell.Compare(a, c)
				if x <= 0 && y <= 0 && z > 0 || x <= 0 && y <= 0 && x+y < 0 && z != -1 {
					t.Fatalf("%#v, %#v, %#v: %d, %d, but %d", a, b, c, x, y, z)
				}
			}
		}
	}
}

package code_test

import (
	"fmt"
	"math"
	"slices"
	"strings"
	"testing"

	"auklet/api"
	"auklet/code"
)

// owns are the functions that Own has.
func owns() []string {
	return []string{"length", "index", "tolower", "toupper", "int", "substr", "sprintf"}
}

// brief is v as a text, as much of it as a line has room for.
func brief(v any) string {
	s := fmt.Sprint(v)
	return s[:min(len(s), 200)]
}

// made is what Own is to make of cells.
type made struct {
	name string
	l    []api.Cell
	want any
}

// holdOwn holds Own against rows: all of these are made.
func holdOwn(t *testing.T, rows []made) {
	t.Helper()
	for _, x := range rows {
		if v, e := code.Own(x.name, x.l); v != c(x.want) || e != api.OK {
			t.Errorf("Own(%q, %s): %s, %v, not %s", x.name, brief(x.l), brief(v), e, brief(c(x.want)))
		}
	}
}

// refused is what Own is to refuse.
type refused struct {
	name string
	l    []api.Cell
	e    api.Errno
}

// holdRefused holds Own against rows: all of these are refused.
func holdRefused(t *testing.T, rows []refused) {
	t.Helper()
	for _, x := range rows {
		if v, e := code.Own(x.name, x.l); v != (api.Cell{}) || e != x.e {
			t.Errorf("Own(%q, %s): %s, %v, not %v", x.name, brief(x.l), brief(v), e, x.e)
		}
	}
}

// P15.3: lengths are in characters, of texts as they are written.
func TestLength(t *testing.T) {
	holdOwn(t, []made{
		{"length", l("hello"), 5},
		{"length", l(""), 0},
		{"length", l(nil), 0},
		{"length", l("é\xffa"), 3},
		{"length", l("😀"), 1},
		{"length", l("a\x00\n"), 3},
		{"length", l(int64(-1500000)), 4},
		{"length", l(100), 3},
		{"length", l(looks(" 10.0 ", 10*one)), 6},
		{"length", l(great), len(great)},
		{"length", l(strings.Repeat("é", 200000)), 200000},
	})
}

// P15.3: places are in characters, from 1; 0 tells that there is none.
func TestIndex(t *testing.T) {
	holdOwn(t, []made{
		{"index", l("banana", "na"), 3},
		{"index", l("banana", "x"), 0},
		{"index", l("banana", ""), 1},
		{"index", l("", ""), 1},
		{"index", l("", "a"), 0},
		{"index", l(nil, nil), 1},
		{"index", l("na", "banana"), 0},
		{"index", l("éèa", "a"), 3},
		{"index", l("é", "\xa9"), 0},
		{"index", l(12345, 34), 3},
		{"index", l(int64(1500000), "."), 2},
		{"index", l(looks(" 7", 7*one), 7), 2},
		{"index", l("a.b", "."), 2},
		{"index", l(great, great), 1},
	})
}

// P15.3: cases are those of bytes from A to Z; what is made is a Text, also of a number.
func TestCases(t *testing.T) {
	holdOwn(t, []made{
		{"tolower", l("HeLLo, É \xffZ@[`{"), "hello, É \xffz@[`{"},
		{"toupper", l("HeLLo, é \xffz@[`{"), "HELLO, é \xffZ@[`{"},
		{"tolower", l(nil), ""},
		{"toupper", l(nil), ""},
		{"tolower", l(int64(-1500000)), "-1.5"},
		{"toupper", l(7), "7"},
		{"tolower", l(looks(" 1.0 ", one)), " 1.0 "},
		{"toupper", l(looks("+2", 2*one)), "+2"},
		{"tolower", l(strings.Repeat("A", 100000)), strings.Repeat("a", 100000)},
		{"toupper", l(strings.Repeat("a", 100000)), strings.Repeat("A", 100000)},
	})
}

// P15.3: whole parts, towards 0, of all kinds of cells.
func TestInt(t *testing.T) {
	holdOwn(t, []made{
		{"int", l(7), 7},
		{"int", l(nil), 0},
		{"int", l(int64(1999999)), 1},
		{"int", l(int64(-1999999)), -1},
		{"int", l(int64(-999999)), 0},
		{"int", l(int64(math.MaxInt64)), int64(9223372036854000000)},
		{"int", l(int64(math.MinInt64)), int64(-9223372036854000000)},
		{"int", l("3.9x"), 3},
		{"int", l("x3"), 0},
		{"int", l(""), 0},
		{"int", l(looks(" -2.5 ", -2500000)), -2},
	})
	holdRefused(t, []refused{
		{"int", l(great), api.ErrOver},
		{"int", l("-9223372036854.775809"), api.ErrOver},
		{"int", l("99999999999999999999x"), api.ErrOver},
	})
}

// P15.3: parts of a text: from a place, as many characters as there are to be.
func TestSubstrOfThree(t *testing.T) {
	holdOwn(t, []made{
		{"substr", l("hello", 2, 3), "ell"},
		{"substr", l("hello", 0, 2), "h"},
		{"substr", l("hello", -1, 3), "h"},
		{"substr", l("hello", -1, 2), ""},
		{"substr", l("hello", 1, 5), "hello"},
		{"substr", l("hello", 1, 50), "hello"},
		{"substr", l("hello", 5, 1), "o"},
		{"substr", l("hello", 6, 1), ""},
		{"substr", l("hello", 2, 0), ""},
		{"substr", l("hello", 2, -1), ""},
		{"substr", l("hello", nil, 3), "he"},
		{"substr", l("hello", 2, nil), ""},
		{"substr", l("hello", int64(2999999), int64(1999999)), "e"},
		{"substr", l("hello", int64(-999999), int64(2999999)), "h"},
		{"substr", l("hello", 1, int64(999999)), ""},
		{"substr", l("hello", "2x", looks(" 3 ", 3*one)), "ell"},
		{"substr", l("hello", "x", "2"), "h"},
		{"substr", l("héé\xffo", 2, 3), "éé\xff"},
		{"substr", l(12345, 2, 3), "234"},
		{"substr", l(looks(" 1.0", one), 1, 2), " 1"},
		{"substr", l(nil, 1, 2), ""},
		{"substr", l("hello", int64(math.MinInt64), int64(math.MaxInt64)), ""},
		{"substr", l("hello", -9223372036852, int64(math.MaxInt64)), "h"},
		{"substr", l("hello", int64(math.MaxInt64), int64(math.MaxInt64)), ""},
		{"substr", l("hello", 3, int64(math.MaxInt64)), "llo"},
		{"substr", l("hello", int64(math.MinInt64), int64(math.MinInt64)), ""},
		{"substr", l(great, 1, 4), "9223"},
	})
}

// P15.3: without a third cell a part goes to the end, and begins no earlier than the text.
func TestSubstrOfTwo(t *testing.T) {
	holdOwn(t, []made{
		{"substr", l("hello", 2), "ello"},
		{"substr", l("hello", 1), "hello"},
		{"substr", l("hello", 0), "hello"},
		{"substr", l("hello", -1), "hello"},
		{"substr", l("hello", -100), "hello"},
		{"substr", l("hello", int64(math.MinInt64)), "hello"},
		{"substr", l("hello", 5), "o"},
		{"substr", l("hello", 6), ""},
		{"substr", l("hello", int64(math.MaxInt64)), ""},
		{"substr", l("hello", nil), "hello"},
		{"substr", l("hello", int64(2999999)), "ello"},
		{"substr", l("hello", "4.5x"), "lo"},
		{"substr", l("hello", looks(" 3", 3*one)), "llo"},
		{"substr", l("éè\xffa", 2), "è\xffa"},
		{"substr", l("éè\xffa", -2), "éè\xffa"},
		{"substr", l(int64(-1500000), 2), "1.5"},
		{"substr", l("", 1), ""},
		{"substr", l("", -1), ""},
		{"substr", l(nil, nil), ""},
		{"substr", l(strings.Repeat("é", 70000), 2), strings.Repeat("é", 69999)},
	})
}

// P15.3: places and lengths that are too great are refused; what is at most cut is not.
func TestSubstrRefuses(t *testing.T) {
	holdRefused(t, []refused{
		{"substr", l("hello", great), api.ErrOver},
		{"substr", l("hello", "-9223372036854.775809"), api.ErrOver},
		{"substr", l("hello", great, 1), api.ErrOver},
		{"substr", l("hello", 1, great), api.ErrOver},
		{"substr", l("hello", great, great), api.ErrOver},
		{"substr", l("", great, 0), api.ErrOver},
		{"substr", l("", 100, great), api.ErrOver},
	})
}

// P15.3: formats, of the first cell's text, with the others.
func TestSprintf(t *testing.T) {
	holdOwn(t, []made{
		{"sprintf", l("%5.2f|%-4d|%x", int64(3141590), 7, 255), " 3.14|7   |ff"},
		{"sprintf", l("plain"), "plain"},
		{"sprintf", l(""), ""},
		{"sprintf", l(nil), ""},
		{"sprintf", l(nil, 1, 2), ""},
		{"sprintf", l(int64(1500000), 2), "1.5"},
		{"sprintf", l(looks(" 10 ", 10*one)), " 10 "},
		{"sprintf", l("12"), "12"},
		{"sprintf", l("%s-%s", "a"), "a-"},
		{"sprintf", l("%s", "a", "b", great), "a"},
		{"sprintf", l("%d%%", "3x"), "3%"},
		{"sprintf", l("%c%c", 233, "xyz"), "éx"},
		{"sprintf", l("%*d", 4, 7), "   7"},
		{"sprintf", l("%s", great), great},
	})
	holdRefused(t, []refused{
		{"sprintf", l("%"), api.ErrFormat},
		{"sprintf", l("%q", great), api.ErrFormat},
		{"sprintf", l("%201d", great), api.ErrFormat},
		{"sprintf", l("%*d", -1, great), api.ErrFormat},
		{"sprintf", l("%c", 55296), api.ErrFormat},
		{"sprintf", l("%d", great), api.ErrOver},
		{"sprintf", l("%*d", great), api.ErrOver},
		{"sprintf", l("%d%q", great), api.ErrOver},
		{"sprintf", l("%c%d", -1, great), api.ErrFormat},
		{"sprintf", l("%d%c", great, -1), api.ErrOver},
		{"sprintf", l("%s%f", great, great), api.ErrOver},
	})
}

// P15.3: what a format makes has at most MaxText bytes; a format that can't be made is refused as that, however long the rest would be.
func TestSprintfBound(t *testing.T) {
	x := func(n int) string { return strings.Repeat("x", n) }
	holdOwn(t, []made{
		{"sprintf", l(x(65536)), x(65536)},
		{"sprintf", l("%s", x(65536)), x(65536)},
		{"sprintf", l("%s%s", x(32768), x(32768)), x(65536)},
		{"sprintf", l("%s", strings.Repeat("é", 32768)), strings.Repeat("é", 32768)},
		{"sprintf", l("%.3s", x(100000)), "xxx"},
		{"sprintf", l(strings.Repeat("%s", 50000)), ""},
		{"sprintf", l(strings.Repeat("%%", 65536)), strings.Repeat("%", 65536)},
	})
	holdRefused(t, []refused{
		{"sprintf", l(x(65537)), api.ErrLong},
		{"sprintf", l("%s", x(65537)), api.ErrLong},
		{"sprintf", l("%s%s", x(32768), x(32769)), api.ErrLong},
		{"sprintf", l("%s.", x(65536)), api.ErrLong},
		{"sprintf", l("%s%s", strings.Repeat("é", 32768), "a"), api.ErrLong},
		{"sprintf", l(strings.Repeat("%200d", 328)), api.ErrLong},
		{"sprintf", l(strings.Repeat("%%", 65537)), api.ErrLong},
		{"sprintf", l(x(65537) + "%"), api.ErrFormat},
		{"sprintf", l("%s%q", x(65537)), api.ErrFormat},
		{"sprintf", l("%s%d", x(65537), great), api.ErrOver},
	})
}

// P15.3: each function takes so many cells, and no others, whatever these are.
func TestOwnMany(t *testing.T) {
	takes := map[string][]int{"length": {1}, "int": {1}, "tolower": {1}, "toupper": {1}, "index": {2}, "substr": {2, 3}, "sprintf": {1, 2, 3, 4, 5, 6, 7}}
	for _, name := range owns() {
		for many := range 8 {
			for _, v := range []any{nil, 1, "a", great, looks("2", 2*one), "%", strings.Repeat("x", 70000)} {
				all := slices.Repeat(l(v), many)
				cell, e := code.Own(name, all)
				if slices.Contains(takes[name], many) {
					if e == api.ErrArg {
						t.Errorf("Own(%q) of %d cells %s: ErrArg", name, many, brief(v))
					}
				} else if cell != (api.Cell{}) || e != api.ErrArg {
					t.Errorf("Own(%q) of %d cells %s: %s, %v", name, many, brief(v), brief(cell), e)
				}
			}
		}
	}
	holdRefused(t, []refused{
		{"length", nil, api.ErrArg},
		{"sprintf", nil, api.ErrArg},
		{"sprintf", []api.Cell{}, api.ErrArg},
		{"int", l(great, great), api.ErrArg},
		{"substr", l("a", great, great, great), api.ErrArg},
	})
	if v, e := code.Own("sprintf", append(l("%s"), slices.Repeat(l("a"), 100000)...)); v != c("a") || e != api.OK {
		t.Error("sprintf of many:", v, e)
	}
}

// P15.3: other names are refused, the language's other functions among them.
func TestOwnOtherNames(t *testing.T) {
	for _, name := range []string{"", " ", "split", "match", "sub", "gsub", "sync", "getline", "print", "printf", "Length", "LENGTH", "length ", " length", "length\x00", "lengths", "len", "substring", "sub str", "upper", "toUpper", "Int", "integer", "sprint", "sprintf(", "+", "<", "\xff", strings.Repeat("int", 1000)} {
		for many := range 5 {
			holdRefused(t, []refused{{name, slices.Repeat(l("a"), many), api.ErrArg}, {name, slices.Repeat(l(great), many), api.ErrArg}})
		}
	}
}

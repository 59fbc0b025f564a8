package format_test

import (
	"math"
	"slices"
	"strings"
	"testing"

	"auklet/api"
	"auklet/cell"
	"auklet/format"
)

// one is the number 1.
const one = api.One

// l are cells: of an int the Number of so many ones, of an int64 that of so many millionths, of a text the Text, of nil Nothing, of a cell itself.
func l(values ...any) []api.Cell {
	var all []api.Cell
	for _, v := range values {
		switch x := v.(type) {
		case nil:
			all = append(all, api.Cell{})
		case int:
			all = append(all, api.Cell{K: api.Number, N: int64(x) * one})
		case int64:
			all = append(all, api.Cell{K: api.Number, N: x})
		case string:
			all = append(all, api.Cell{K: api.Text, S: x})
		case api.Cell:
			all = append(all, x)
		default:
			panic("no cell")
		}
	}
	return all
}

// row is what Do is to make, if no error is.
type row struct {
	f    string
	l    []api.Cell
	want string
}

// hold holds Do against rows: all of these are made.
func hold(t *testing.T, rows []row) {
	t.Helper()
	for _, x := range rows {
		if s, e := format.Do(x.f, x.l); s != x.want || e != api.OK {
			t.Errorf("Do(%q, %v): %q, %v, not %q", x.f, x.l, s, e, x.want)
		}
	}
}

// wrong is what Do is to refuse.
type wrong struct {
	f string
	l []api.Cell
	e api.Errno
}

// refused holds Do against rows: all of these are errors.
func refused(t *testing.T, rows []wrong) {
	t.Helper()
	for _, x := range rows {
		if s, e := format.Do(x.f, x.l); s != "" || e != x.e {
			t.Errorf("Do(%q, %v): %q, %v, not %v", x.f, x.l, s, e, x.e)
		}
	}
}

// looks is a text that looks like a number.
func looks(s string) api.Cell { return cell.Input(s) }

// P10.1: what stands between directives stays as it is, and each directive is replaced.
func TestReplaced(t *testing.T) {
	hold(t, []row{
		{"%5.2f|%-4d|%x", l(int64(3141590), 7, 255), " 3.14|7   |ff"},
		{"", nil, ""}, {"", l(1, 2), ""}, {"abc", nil, "abc"}, {"abc", l(1), "abc"},
		{"%d", l(7), "7"}, {"a%db", l(7), "a7b"}, {"%d%d", l(7, 8), "78"}, {"%s, %s!\n", l("hello", "world"), "hello, world!\n"},
		{"é%dé", l(7), "é7é"}, {"\xff%d\x00", l(7), "\xff7\x00"}, {"\xc3%s", l("\xa9"), "\xc3\xa9"},
		{`\n\%d`, l(7), `\n\7`}, {"d%dd", l(7), "d7d"}, {"-5%d.5", l(7), "-57.5"},
		{"%s", l("%d"), "%d"}, {"%s%d", l("%", 1), "%1"}, {"%s", l("%"), "%"},
		{"%%", nil, "%"}, {"100%%", nil, "100%"}, {"%%d", l(7), "%d"}, {"%%%d%%", l(7), "%7%"}, {"%%%%", nil, "%%"},
	})
}

// P10.1: flags, as many as come, in any order; then a width; then perhaps a point and a precision.
func TestForms(t *testing.T) {
	hold(t, []row{
		{"%-d", l(7), "7"}, {"%+d", l(7), "+7"}, {"% d", l(7), " 7"}, {"%0d", l(7), "7"},
		{"%--------d|", l(7), "7|"}, {"%++++d", l(7), "+7"}, {"%    d", l(7), " 7"}, {"%0000d", l(7), "7"}, {"%+- 0+- 04d|", l(7), "+7  |"},
		{"%0-4d|", l(7), "7   |"}, {"%-04d|", l(7), "7   |"}, {"%+04d", l(7), "+007"}, {"%0+4d", l(7), "+007"}, {"% 04d", l(7), " 007"}, {"%0 4d", l(7), " 007"},
		{"%-00000000000004d|", l(7), "7   |"}, {"%4d", l(7), "   7"}, {"%10d", l(7), "         7"}, {"%40d", l(7), strings.Repeat(" ", 39) + "7"},
		{"%200d", l(7), strings.Repeat(" ", 199) + "7"}, {"%.200d", l(7), strings.Repeat("0", 199) + "7"}, {"%200.200d", l(7), strings.Repeat("0", 199) + "7"},
		{"%.2d", l(7), "07"}, {"%.d", l(7), "7"}, {"%.d", l(0), ""}, {"%4.2d", l(7), "  07"}, {"%4.d", l(7), "   7"}, {"%-4.2d|", l(7), "07  |"}, {"%.00000000002d", l(7), "07"}, {"%3.0d", l(0), "   "},
		{"%" + strings.Repeat("-", 5000) + "3d|", l(7), "7  |"},
		{"%." + strings.Repeat("0", 5000) + "3d|", l(7), "007|"},
	})
}

// P10.1: all letters, with and without a cell.
func TestLetters(t *testing.T) {
	hold(t, []row{
		{"%d %i %o %x %X %c %s %f %%", l(10, 10, 10, 10, 10, 65, 10, 10), "10 10 12 a A A 10 10.000000 %"},
		{"%d %i %o %x %X %c|%s %f %%", nil, "0 0 0 0 0 | 0.000000 %"},
		{"%d %i %o %x %X %c|%s %f %%", l(nil, nil, nil, nil, nil, nil, nil, nil), "0 0 0 0 0 | 0.000000 %"},
	})
	for i := range 256 {
		letter := string([]byte{byte(i)})
		if strings.Contains("-+ 0123456789*.", letter) {
			continue
		}
		e := api.ErrFormat
		if strings.Contains("dioxXcsf%", letter) {
			e = api.OK
		}
		for _, ahead := range []string{"", "-", "+", " ", "0", "5", "05", "-5", ".", ".5", "5.", "5.5", "*", ".*", "*.*", "+5", "-+ 0200.200"} {
			f := "%" + ahead + letter
			if _, got := format.Do(f, l(1, 1, 1)); got != e {
				t.Errorf("Do(%q): %v, not %v", f, got, e)
			}
			if _, got := format.Count(f); got != e {
				t.Errorf("Count(%q): %v, not %v", f, got, e)
			}
		}
	}
}

// P10.1: cells are taken in the order in which what takes them stands; of what is left over nothing is made.
func TestCells(t *testing.T) {
	hold(t, []row{
		{"%s%s%s", l("a", "b", "c"), "abc"}, {"%s%s", l("a", "b", "c"), "ab"}, {"%s%s%s|%d", l("a"), "a|0"}, {"%s|%s", l(nil, "b"), "|b"},
		{"%s%%%s%5%%s", l("a", "b", "c"), "a%b%c"},
		{"%*d", l(4, 7), "   7"}, {"%-*d|", l(4, 7), "7   |"}, {"%0*d", l(4, 7), "0007"}, {"%.*d", l(3, 7), "007"}, {"%*.*d", l(4, 2, 7), "  07"}, {"%*.2d", l(4, 7), "  07"}, {"%4.*d", l(2, 7), "  07"}, {"%*.d|", l(4, 0), "    |"},
		{"%*.*f|%s", l(8, 2, int64(3141590), "x"), "    3.14|x"}, {"%.*s|%*s", l(2, "abc", 4, "d"), "ab|   d"}, {"%*c", l(3, 65), "  A"}, {"%*.*x", l(4, 3, 10), " 00a"},
		{"%*%%s", l(4, "a"), "%a"}, {"%.*%%s", l(4, "a"), "%a"}, {"%*.*%%s", l(4, 5, "a"), "%a"}, {"%-+ 0*.*%%s", l(4, 5, "a"), "%a"},
		{"%*d", nil, "0"}, {"%*d", l(4), "   0"}, {"%.*d|", nil, "|"}, {"%*.*d", l(4), "    "}, {"%*.*d", l(4, 2), "  00"}, {"%*%", nil, "%"},
	})
}

// P10.1: what a star takes: a number's whole part, from 0 to MaxWidth.
func TestStars(t *testing.T) {
	hold(t, []row{
		{"%*d", l(0, 7), "7"}, {"%*d", l(1, 7), "7"}, {"%*d", l(2, 7), " 7"}, {"%*d", l(200, 7), strings.Repeat(" ", 199) + "7"}, {"%.*d", l(200, 7), strings.Repeat("0", 199) + "7"},
		{"%*d", l(int64(3999999), 7), "  7"}, {"%*d", l(int64(200*one+one-1), 7), strings.Repeat(" ", 199) + "7"}, {"%*d", l(int64(-1), 7), "7"}, {"%*d", l(int64(-one+1), 7), "7"}, {"%.*d", l(int64(-one+1), 0), ""}, {"%.*f", l(int64(2999999), 1), "1.00"},
		{"%*d", l("3x", 7), "  7"}, {"%*d", l("x", 7), "7"}, {"%*d", l("", 7), "7"}, {"%*d", l(" 3.9 ", 7), "  7"}, {"%*d", l(looks(" 3.9 "), 7), "  7"}, {"%*d", l(nil, 7), "7"}, {"%.*d", l(nil, 0), ""}, {"%.*s|", l(nil, "abc"), "|"}, {"%.*f", l(nil, int64(1500000)), "2"},
		{"%*s", l("3", "é"), "  é"},
	})
	for _, f := range []string{"%*d", "%.*d", "%*.5d", "%5.*d", "%*s", "%*c", "%.*f", "%.*s", "%.*c", "%*%", "%.*%"} {
		refused(t, []wrong{
			{f, l(-1, 7), api.ErrFormat}, {f, l(201, 7), api.ErrFormat}, {f, l(int64(-one), 7), api.ErrFormat}, {f, l(int64(-one-1), 7), api.ErrFormat}, {f, l(int64(201*one), 7), api.ErrFormat}, {f, l(int64(math.MaxInt64), 7), api.ErrFormat}, {f, l(int64(math.MinInt64), 7), api.ErrFormat}, {f, l(1<<32+5, 7), api.ErrFormat}, {f, l(256, 7), api.ErrFormat}, {f, l(-1<<32+5, 7), api.ErrFormat},
			{f, l("-1", 7), api.ErrFormat}, {f, l("201x", 7), api.ErrFormat}, {f, l(looks("-1"), 7), api.ErrFormat}, {f, l(looks(" 201 "), 7), api.ErrFormat},
			{f, l("99999999999999999999", 7), api.ErrOver}, {f, l("-99999999999999999999x", 7), api.ErrOver}, {f, l("9223372036854.775808", 7), api.ErrOver},
		})
	}
	refused(t, []wrong{{"%*.*d", l(4, -1, 7), api.ErrFormat}, {"%*.*d", l(-1, 4, 7), api.ErrFormat}, {"%*.*d", l(4, 201, 7), api.ErrFormat}, {"%*.*d", l(4, "99999999999999999999", 7), api.ErrOver}, {"%*.*%", l(4, -1), api.ErrFormat}})
}

// P10.1: directives that have not the form that they should have.
func TestFormWrong(t *testing.T) {
	for _, f := range []string{
		"%", "abc%", "%%%", "%d%", "%-", "%+", "% ", "%0", "%5", "%05", "%*", "%.", "%.5", "%5.", "%5.5", "%*.", "%*.*", "%-+ 0200.200", "%.*",
		"%a", "%e", "%g", "%u", "%D", "%S", "%F", "%I", "%O", "%C", "%\n", "%\x00", "%é", "%\xff", "%#x", "%ld", "%5-d", "%5+d", "%5 d", "%5*d", "%*5d", "%**d", "%..d", "%.5.5d", "%.-5d", "%.+5d", "%. 5d", "%.*5d", "%.5*d", "%-.-d", "%1$d", "%,d", "%'d", "%_",
		"%201d", "%.201d", "%201.5d", "%5.201d", "%201s", "%.201f", "%201c", "%201%", "%.201%", "%0201d", "%-201d", "%.0201d", "%1000d", "%256d", "%65536d", "%4294967296d", "%4294967301d", "%.4294967301d", "%18446744073709551616d", "%18446744073709551621d", "%.18446744073709551621d", "%9223372036854775807d", "%9223372036854775808d", "%99999999999999999999999999d", "%.99999999999999999999999999%", "%" + strings.Repeat("9", 5000) + "d", "%." + strings.Repeat("1", 5000) + "s",
		"%201", "%.201", "%201z",
		"%d %s %z", "%z%d", "ok %5.2f, %c, %%, then %",
	} {
		refused(t, []wrong{{f, l(1, 2, 3, 4), api.ErrFormat}, {f, nil, api.ErrFormat}})
	}
}

// P10.1: a number that is needed and too great; where none is needed it is a text.
func TestOver(t *testing.T) {
	great := "99999999999999999999"
	for _, f := range []string{"%d", "%i", "%o", "%x", "%X", "%f", "%.0f", "%5d", "a%-5.3xb", "%%%d", "%s%d"} {
		refused(t, []wrong{{f, l(great, great), api.ErrOver}, {f, l("-"+great+"x", great), api.ErrOver}, {f, l(" 9223372036854.775808", great), api.ErrOver}})
	}
	hold(t, []row{
		{"%s", l(great), great}, {"%c", l(great), "9"}, {"%.2s", l(great), "99"}, {"%d%%", l(1, great), "1%"}, {"%%", l(great), "%"}, {"%5%", l(great), "%"}, {"", l(great), ""},
		{"%s", l(looks(great)), great}, {"%d", l("9223372036854.775807"), "9223372036854"}, {"%d", l("-9223372036854.775808"), "-9223372036854"},
	})
}

// P10.1: the first error: directive by directive; of each first its form, then its stars, then what its letter takes.
func TestFirstError(t *testing.T) {
	great := "99999999999999999999"
	refused(t, []wrong{
		{"%d%z", l(great), api.ErrOver}, {"%d%", l(great), api.ErrOver}, {"%d%201d", l(great), api.ErrOver}, {"%z%d", l(great), api.ErrFormat}, {"%c%d", l(-1, great), api.ErrFormat}, {"%d%c", l(great, -1), api.ErrOver}, {"%s%d%z", l("a", great), api.ErrOver}, {"%*d%d", l(-1, 1, great), api.ErrFormat}, {"%*d%d", l(1, great, 1), api.ErrOver},
		{"%*z", l(great), api.ErrFormat}, {"%*", l(great), api.ErrFormat}, {"%*.", l(great), api.ErrFormat}, {"%*.201d", l(great), api.ErrFormat}, {"%201.*d", l(great), api.ErrFormat}, {"%*.*z", l(great, great), api.ErrFormat}, {"%*5d", l(great), api.ErrFormat},
		{"%*d", l(great, great), api.ErrOver}, {"%*d", l(-1, great), api.ErrFormat}, {"%*d", l(1, great), api.ErrOver}, {"%.*d", l(201, great), api.ErrFormat}, {"%.*d", l(great, 1), api.ErrOver},
		{"%*.*d", l(great, -1, 1), api.ErrOver}, {"%*.*d", l(-1, great, 1), api.ErrFormat}, {"%*.*d", l(1, -1, great), api.ErrFormat}, {"%*.*d", l(1, great, -1), api.ErrOver}, {"%*.*c", l(great, 1, -1), api.ErrOver}, {"%*c", l(great, -1), api.ErrOver}, {"%*c", l(1, -1), api.ErrFormat}, {"%*%", l(great), api.ErrOver}, {"%*.*%", l(201, great), api.ErrFormat},
		{"%*d", l(-1), api.ErrFormat},
	})
}

// P10.2: d and i: the whole part, its digits, and its sign.
func TestWholes(t *testing.T) {
	rows := []row{
		{"%d", l(0), "0"}, {"%d", l(7), "7"}, {"%d", l(-7), "-7"}, {"%d", l(int64(7999999)), "7"}, {"%d", l(int64(-7999999)), "-7"}, {"%d", l(1234567890123), "1234567890123"}, {"%d", l(int64(math.MaxInt64)), "9223372036854"}, {"%d", l(int64(math.MinInt64)), "-9223372036854"},
		{"%d", l(int64(999999)), "0"}, {"%d", l(int64(-999999)), "0"}, {"%d", l(int64(-1)), "0"}, {"%+d", l(int64(-1)), "+0"}, {"% d", l(int64(-999999)), " 0"}, {"%d", l(int64(-one)), "-1"},
		{"%d", l("12abc"), "12"}, {"%d", l("abc"), "0"}, {"%d", l(" -3.7 "), "-3"}, {"%d", l(looks(" -3.7 ")), "-3"}, {"%d", l(""), "0"}, {"%d", l(nil), "0"},
		{"%+d", l(7), "+7"}, {"%+d", l(-7), "-7"}, {"%+d", l(0), "+0"}, {"% d", l(7), " 7"}, {"% d", l(-7), "-7"}, {"% d", l(0), " 0"}, {"%+ d", l(7), "+7"}, {"% +d", l(7), "+7"}, {"% +d", l(-7), "-7"},
		{"%.3d", l(7), "007"}, {"%.3d", l(-7), "-007"}, {"%+.3d", l(7), "+007"}, {"% .3d", l(7), " 007"}, {"%.3d", l(1234), "1234"}, {"%.4d", l(1234), "1234"}, {"%.5d", l(-1234), "-01234"}, {"%.1d", l(0), "0"}, {"%.3d", l(0), "000"},
		{"%.0d", l(0), ""}, {"%.d", l(0), ""}, {"%.0d", l(7), "7"}, {"%.0d", l(-7), "-7"}, {"%+.0d", l(0), "+"}, {"% .0d", l(0), " "}, {"%.0d", l(int64(500000)), ""}, {"%.0d", l(int64(-500000)), ""}, {"%5.0d|", l(0), "     |"}, {"%-5.0d|", l(0), "     |"}, {"%+5.0d|", l(0), "    +|"}, {"%.0d", l(nil), ""}, {"%.0d", l("x"), ""},
		{"%5d", l(7), "    7"}, {"%5d", l(-7), "   -7"}, {"%-5d|", l(-7), "-7   |"}, {"%05d", l(-7), "-0007"}, {"%+05d", l(7), "+0007"}, {"%6.3d", l(-7), "  -007"}, {"%06.3d", l(-7), "  -007"}, {"%-6.3d|", l(-7), "-007  |"}, {"%2d", l(12345), "12345"}, {"%02d", l(-12345), "-12345"},
	}
	hold(t, rows)
	for i := range rows {
		rows[i].f = strings.ReplaceAll(rows[i].f, "d", "i")
	}
	hold(t, rows)
}

// P10.2: o, x and X: the whole part, of one below 0 what it is modulo 2^64; no sign.
func TestBases(t *testing.T) {
	hold(t, []row{
		{"%o %x %X", l(0, 0, 0), "0 0 0"}, {"%o", l(8), "10"}, {"%o", l(7), "7"}, {"%o", l(64), "100"}, {"%x", l(10), "a"}, {"%X", l(10), "A"}, {"%x", l(255), "ff"}, {"%X", l(255), "FF"}, {"%x", l(256), "100"}, {"%x", l(0xabcdef), "abcdef"}, {"%X", l(0xabcdef), "ABCDEF"}, {"%x", l(0x1234567890), "1234567890"},
		{"%x", l(int64(15999999)), "f"}, {"%x", l(int64(-999999)), "0"}, {"%o", l(int64(-1)), "0"}, {"%x", l(int64(math.MaxInt64)), "8637bd05af6"},
		{"%x", l(-1), "ffffffffffffffff"}, {"%X", l(-1), "FFFFFFFFFFFFFFFF"}, {"%o", l(-1), "1777777777777777777777"}, {"%x", l(-256), "ffffffffffffff00"}, {"%x", l(int64(-1999999)), "ffffffffffffffff"}, {"%x", l(int64(math.MinInt64)), "fffff79c842fa50a"}, {"%X", l(int64(math.MinInt64)), "FFFFF79C842FA50A"}, {"%o", l(int64(math.MinInt64)), "1777777571620413722412"},
		{"%+x", l(10), "a"}, {"% x", l(10), "a"}, {"%+ o", l(8), "10"}, {"%+X", l(-1), "FFFFFFFFFFFFFFFF"},
		{"%.4x", l(10), "000a"}, {"%.4X", l(10), "000A"}, {"%.4o", l(10), "0012"}, {"%.0x", l(0), ""}, {"%.o", l(0), ""}, {"%.0X", l(0), ""}, {"%.0x", l(10), "a"}, {"%.0x", l(int64(-1)), ""}, {"%+.0x", l(0), ""}, {"%.20x", l(-1), "0000ffffffffffffffff"},
		{"%5x", l(10), "    a"}, {"%05x", l(10), "0000a"}, {"%-5x|", l(10), "a    |"}, {"%-05x|", l(10), "a    |"}, {"%05.2x", l(10), "   0a"}, {"%05.x", l(10), "    a"}, {"%05o", l(8), "00010"}, {"%05X", l(10), "0000A"}, {"%05.3X", l(10), "  00A"}, {"%05.3o", l(10), "  012"}, {"% 05x", l(10), "0000a"}, {"%+05x", l(10), "0000a"},
		{"%x", l("12abc"), "c"}, {"%x", l(looks(" 31 ")), "1f"}, {"%x", l(nil), "0"}, {"%x", l("0xff"), "0"},
	})
}

// P10.2: f: so many digits behind the point, and the sign.
func TestFixedDirective(t *testing.T) {
	hold(t, []row{
		{"%f", l(0), "0.000000"}, {"%f", l(7), "7.000000"}, {"%f", l(int64(-1)), "-0.000001"}, {"%f", l(int64(3141590)), "3.141590"}, {"%f", l(int64(math.MinInt64)), "-9223372036854.775808"}, {"%f", l(int64(math.MaxInt64)), "9223372036854.775807"},
		{"%.2f", l(int64(3141590)), "3.14"}, {"%.0f", l(int64(3141590)), "3"}, {"%.f", l(int64(3500000)), "4"}, {"%.0f", l(int64(-2500000)), "-3"}, {"%.0f", l(int64(-499999)), "-0"}, {"%.2f", l(int64(-1)), "-0.00"}, {"%.6f", l(int64(1)), "0.000001"}, {"%.8f", l(int64(1)), "0.00000100"}, {"%.200f", l(1), "1." + strings.Repeat("0", 200)},
		{"%+f", l(1), "+1.000000"}, {"% f", l(1), " 1.000000"}, {"%+ f", l(1), "+1.000000"}, {"% +.1f", l(1), "+1.0"}, {"%+f", l(-1), "-1.000000"}, {"% f", l(-1), "-1.000000"}, {"%+.0f", l(0), "+0"}, {"% .0f", l(0), " 0"}, {"%+.0f", l(int64(-1)), "-0"}, {"% .1f", l(int64(-1)), "-0.0"}, {"%.0f", l(0), "0"},
		{"%8.2f", l(int64(3141590)), "    3.14"}, {"%08.2f", l(int64(3141590)), "00003.14"}, {"%08.2f", l(int64(-3141590)), "-0003.14"}, {"%+08.2f", l(int64(3141590)), "+0003.14"}, {"% 08.2f", l(int64(3141590)), " 0003.14"}, {"%-8.2f|", l(int64(3141590)), "3.14    |"}, {"%-08.2f|", l(int64(3141590)), "3.14    |"}, {"%010f", l(1), "001.000000"}, {"%05.0f", l(-2), "-0002"}, {"%05.f", l(-2), "-0002"}, {"%-+8.1f|", l(1), "+1.0    |"}, {"%3f", l(1), "1.000000"},
		{"%.1f", l("2.55x"), "2.6"}, {"%.1f", l(looks(" 2.55 ")), "2.6"}, {"%.1f", l(nil), "0.0"}, {"%.1f", l("x"), "0.0"}, {"%.2f", l("-0"), "0.00"},
	})
}

// P10.2: c: of a Number the character that it is the code of, of others the text's first.
func TestCharacters(t *testing.T) {
	hold(t, []row{
		{"%c", l(65), "A"}, {"%c", l(0), "\x00"}, {"%c", l(10), "\n"}, {"%c", l(127), "\x7f"}, {"%c", l(128), "\u0080"}, {"%c", l(233), "é"}, {"%c", l(255), "ÿ"}, {"%c", l(256), "Ā"}, {"%c", l(0x7ff), "\u07ff"}, {"%c", l(0x800), "\u0800"}, {"%c", l(8364), "€"}, {"%c", l(65533), "\ufffd"}, {"%c", l(65535), "\uffff"}, {"%c", l(65536), "\U00010000"}, {"%c", l(128512), "😀"},
		{"%c", l(55295), "\ud7ff"}, {"%c", l(57344), "\ue000"}, {"%c", l(1114111), "\U0010ffff"}, {"%c", l(int64(1114111*one + 999999)), "\U0010ffff"}, {"%c", l(int64(55295*one + 999999)), "\ud7ff"}, {"%c", l(int64(65999999)), "A"}, {"%c", l(int64(-1)), "\x00"}, {"%c", l(int64(-999999)), "\x00"},
		{"%c", l("A"), "A"}, {"%c", l("hello"), "h"}, {"%c", l("éa"), "é"}, {"%c", l("€uro"), "€"}, {"%c", l("\xffa"), "\xff"}, {"%c", l("\xc3"), "\xc3"}, {"%c", l("\xe2\x82a"), "\xe2"}, {"%c", l("\x00a"), "\x00"}, {"%c", l(""), ""}, {"%c", l(nil), ""}, {"%c", l("65"), "6"}, {"%c", l(looks("65")), "6"}, {"%c", l(looks(" 65")), " "}, {"%c", l(looks("-1")), "-"}, {"%c", l(" A"), " "},
		{"%5c", l(65), "    A"}, {"%-5c|", l(65), "A    |"}, {"%05c", l(65), "    A"}, {"%-05c|", l(65), "A    |"}, {"%3c", l(233), "  é"}, {"%3c", l("\xff"), "  \xff"}, {"%3c|", l(""), "   |"}, {"%03c|", l(nil), "   |"}, {"%03c", l("-"), "  -"}, {"%+c", l(65), "A"}, {"% c", l(65), "A"}, {"%.0c", l(65), "A"}, {"%.c", l("abc"), "a"}, {"%.5c", l("abc"), "a"}, {"%5.0c", l("abc"), "    a"},
	})
	for _, n := range []int64{-1, -65, 55296, 56320, 57343, 1114112, 1 << 31, 1<<32 + 65, 1 << 33, -1<<32 + 65, 1<<40 + 65, math.MaxInt64 / one, math.MinInt64 / one} {
		refused(t, []wrong{{"%c", l(int64(n * one)), api.ErrFormat}, {"a%5c", l(int64(n * one)), api.ErrFormat}})
	}
	refused(t, []wrong{{"%c", l(int64(55296*one + 5)), api.ErrFormat}, {"%c", l(int64(57343*one + 999999)), api.ErrFormat}, {"%c", l(int64(-1000001)), api.ErrFormat}, {"%c", l(int64(math.MinInt64)), api.ErrFormat}, {"%c", l(int64(math.MaxInt64)), api.ErrFormat}})
}

// P10.2: each code of a character, and each that is none.
func TestCodes(t *testing.T) {
	for n := int64(-3); n < 1114115; n++ {
		want, wantE := "", api.ErrFormat
		if n >= 0 && n <= 1114111 && (n < 55296 || n > 57343) {
			want, wantE = string(rune(n)), api.OK
		}
		if s, e := format.Do("%c", l(int64(n*one))); s != want || e != wantE {
			t.Fatalf("the character %d: %q, %v", n, s, e)
		}
	}
}

// P10.2: s: the text, or its first characters; %: a %, whatever stands between.
func TestTexts(t *testing.T) {
	hold(t, []row{
		{"%s", l("abc"), "abc"}, {"%s", l(""), ""}, {"%s", l(nil), ""}, {"%s", l(7), "7"}, {"%s", l(int64(-500000)), "-0.5"}, {"%s", l(int64(1500000)), "1.5"}, {"%s", l(looks(" +7.0 ")), " +7.0 "}, {"%s", l("a\x00\xff"), "a\x00\xff"}, {"%s", l(strings.Repeat("é", 1000)), strings.Repeat("é", 1000)},
		{"%.2s", l("abc"), "ab"}, {"%.3s", l("abc"), "abc"}, {"%.4s", l("abc"), "abc"}, {"%.0s|", l("abc"), "|"}, {"%.s|", l("abc"), "|"}, {"%.2s", l("éàü"), "éà"}, {"%.2s", l("\xff\xfe\xfd"), "\xff\xfe"}, {"%.1s", l("😀x"), "😀"}, {"%.2s", l("\xe2\x82x"), "\xe2\x82"}, {"%.2s", l(int64(1500000)), "1."}, {"%.2s", l(looks(" 15")), " 1"}, {"%.200s", l(strings.Repeat("é", 300)), strings.Repeat("é", 200)}, {"%.2s|", l(nil), "|"},
		{"%5s", l("abc"), "  abc"}, {"%-5s|", l("abc"), "abc  |"}, {"%05s", l("abc"), "  abc"}, {"%05s", l("-7"), "   -7"}, {"%05s", l(7), "    7"}, {"%-05s|", l("abc"), "abc  |"}, {"%3s", l("éà"), " éà"}, {"%3s", l("\xff\xfe"), " \xff\xfe"}, {"%5.2s", l("éàü"), "   éà"}, {"%-5.2s|", l("éàü"), "éà   |"}, {"%2s", l("abc"), "abc"}, {"%+s", l("abc"), "abc"}, {"%+s", l(7), "7"}, {"% s", l(7), "7"}, {"%5s|", l(nil), "     |"}, {"%200s", l("x"), strings.Repeat(" ", 199) + "x"},
		{"%5%", nil, "%"}, {"%-5%|", nil, "%|"}, {"%05%", nil, "%"}, {"%.0%", nil, "%"}, {"%.5%", nil, "%"}, {"%+ -0200.200%", nil, "%"}, {"%*%", l(7), "%"}, {"%+%", nil, "%"}, {"% %", nil, "%"}, {"%.%", nil, "%"},
	})
}

// P10.3: so many digits behind the point, rounded to the nearest, halves away from 0.
func TestFixed(t *testing.T) {
	for _, x := range []struct {
		n      int64
		digits int
		want   string
	}{
		{0, 0, "0"}, {0, 1, "0.0"}, {0, 6, "0.000000"}, {0, 8, "0.00000000"}, {one, 0, "1"}, {one, 2, "1.00"}, {-one, 0, "-1"}, {-one, 2, "-1.00"}, {1234567, 6, "1.234567"}, {1234567, 5, "1.23457"}, {1234567, 4, "1.2346"}, {1234567, 3, "1.235"}, {1234567, 2, "1.23"}, {1234567, 1, "1.2"}, {1234567, 0, "1"}, {1234567, 7, "1.2345670"}, {1234567, 10, "1.2345670000"},
		// Halves, and what is just beside them.
		{500000, 0, "1"}, {499999, 0, "0"}, {500001, 0, "1"}, {1500000, 0, "2"}, {2500000, 0, "3"}, {-500000, 0, "-1"}, {-499999, 0, "-0"}, {-1500000, 0, "-2"}, {-2500000, 0, "-3"}, {-2499999, 0, "-2"}, {50000, 1, "0.1"}, {49999, 1, "0.0"}, {150000, 1, "0.2"}, {250000, 1, "0.3"}, {249999, 1, "0.2"}, {-250000, 1, "-0.3"}, {5, 5, "0.00001"}, {4, 5, "0.00000"}, {15, 5, "0.00002"}, {445, 4, "0.0004"}, {444999, 2, "0.44"}, {444999, 1, "0.4"}, {449999, 0, "0"}, {445000, 2, "0.45"}, {445000, 1, "0.4"},
		// Nines that become noughts.
		{999999, 5, "1.00000"}, {999999, 0, "1"}, {9999999, 3, "10.000"}, {9995000, 3, "9.995"}, {9999500, 3, "10.000"}, {-999999, 2, "-1.00"}, {99999999999999, 1, "100000000.0"}, {950000, 1, "1.0"},
		// Only noughts are left of one below 0.
		{-1, 0, "-0"}, {-1, 1, "-0.0"}, {-1, 5, "-0.00000"}, {-1, 6, "-0.000001"}, {-4, 5, "-0.00000"}, {-5, 5, "-0.00001"}, {-49999, 1, "-0.0"}, {1, 0, "0"}, {1, 5, "0.00000"},
		// How many digits counts as 0, or as MaxWidth.
		{1500000, -1, "2"}, {1500000, math.MinInt, "2"}, {-1, -7, "-0"}, {one, 200, "1." + strings.Repeat("0", 200)}, {one, 201, "1." + strings.Repeat("0", 200)}, {1234567, math.MaxInt, "1.234567" + strings.Repeat("0", 194)}, {-1, 1 << 40, "-0.000001" + strings.Repeat("0", 194)}, {one, 199, "1." + strings.Repeat("0", 199)},
		// The greatest and the least.
		{math.MaxInt64, 6, "9223372036854.775807"}, {math.MaxInt64, 5, "9223372036854.77581"}, {math.MaxInt64, 0, "9223372036855"}, {math.MinInt64, 6, "-9223372036854.775808"}, {math.MinInt64, 5, "-9223372036854.77581"}, {math.MinInt64, 1, "-9223372036854.8"}, {math.MinInt64, 0, "-9223372036855"}, {math.MinInt64, 7, "-9223372036854.7758080"}, {math.MinInt64 + 1, 6, "-9223372036854.775807"},
		{10 * one, 1, "10.0"}, {1000000 * one, 0, "1000000"}, {123456789012 * one, 3, "123456789012.000"}, {10, 5, "0.00001"}, {100000, 1, "0.1"}, {10000, 1, "0.0"}, {10000, 2, "0.01"},
	} {
		if s := format.Fixed(x.n, x.digits); s != x.want {
			t.Errorf("Fixed(%d, %d): %q, not %q", x.n, x.digits, s, x.want)
		}
	}
}

// P10.3: the digits of the whole part.
func TestWhole(t *testing.T) {
	for _, x := range []struct {
		n     int64
		base  int
		great bool
		want  string
	}{
		{0, 8, false, "0"}, {0, 10, false, "0"}, {0, 16, false, "0"}, {0, 16, true, "0"}, {7 * one, 8, false, "7"}, {8 * one, 8, false, "10"}, {8 * one, 10, false, "8"}, {10 * one, 16, false, "a"}, {10 * one, 16, true, "A"}, {10 * one, 10, true, "10"}, {10 * one, 8, true, "12"}, {255 * one, 16, false, "ff"}, {255 * one, 16, true, "FF"}, {0xabcdef * one, 16, false, "abcdef"}, {0xabcdef * one, 16, true, "ABCDEF"}, {1234567890123 * one, 10, false, "1234567890123"},
		{999999, 10, false, "0"}, {-999999, 10, false, "0"}, {-999999, 16, false, "0"}, {-1, 8, false, "0"}, {one + 999999, 10, false, "1"}, {-one - 999999, 10, false, "1"}, {-7 * one, 10, false, "7"}, {-7 * one, 10, true, "7"}, {-one, 16, false, "ffffffffffffffff"}, {-one, 16, true, "FFFFFFFFFFFFFFFF"}, {-one, 8, false, "1777777777777777777777"}, {-2*one - 1, 16, false, "fffffffffffffffe"}, {-one - 999999, 8, false, "1777777777777777777777"},
		{math.MaxInt64, 10, false, "9223372036854"}, {math.MaxInt64, 16, false, "8637bd05af6"}, {math.MaxInt64, 8, false, "206157364055366"}, {math.MinInt64, 10, false, "9223372036854"}, {math.MinInt64, 16, false, "fffff79c842fa50a"}, {math.MinInt64, 16, true, "FFFFF79C842FA50A"}, {math.MinInt64, 8, false, "1777777571620413722412"},
	} {
		if s := format.Whole(x.n, x.base, x.great); s != x.want {
			t.Errorf("Whole(%d, %d, %t): %q, not %q", x.n, x.base, x.great, s, x.want)
		}
	}
	// What other bases tell the document leaves open, but it is told.
	for _, base := range []int{0, 1, -1, 2, 36, 37, 62, 100, math.MaxInt, math.MinInt} {
		for _, n := range []int64{0, one, -one, math.MaxInt64, math.MinInt64} {
			format.Whole(n, base, false)
			format.Whole(n, base, true)
		}
	}
}

// P10.4: so many characters at least.
func TestPad(t *testing.T) {
	for _, x := range []struct {
		s          string
		wide       int
		left, zero bool
		want       string
	}{
		{"abc", 5, false, false, "  abc"}, {"abc", 5, true, false, "abc  "}, {"abc", 5, false, true, "00abc"}, {"abc", 5, true, true, "abc  "},
		{"", 3, false, false, "   "}, {"", 3, true, false, "   "}, {"", 3, false, true, "000"}, {"", 3, true, true, "   "}, {"", 0, false, true, ""},
		{"abc", 3, false, false, "abc"}, {"abc", 2, false, true, "abc"}, {"abc", 0, true, false, "abc"}, {"abc", 4, false, false, " abc"}, {"-7", 2, false, true, "-7"}, {"-7", 1, false, true, "-7"}, {"-7", 3, false, true, "-07"},
		{"-7", 5, false, true, "-0007"}, {"+7", 5, false, true, "+0007"}, {" 7", 5, false, true, " 0007"}, {"-7", 5, false, false, "   -7"}, {"-7", 5, true, true, "-7   "}, {"+", 3, false, true, "+00"}, {"-", 3, false, true, "-00"}, {" ", 3, false, true, " 00"}, {"--7", 5, false, true, "-00-7"}, {"  7", 5, false, true, " 00 7"}, {"-+7", 5, false, true, "-00+7"}, {"7-", 5, false, true, "0007-"}, {"\t7", 5, false, true, "000\t7"}, {"\n7", 4, false, true, "00\n7"}, {".5", 4, false, true, "00.5"}, {",7", 4, false, true, "00,7"},
		// By characters, not by bytes.
		{"é", 3, false, false, "  é"}, {"é", 3, true, false, "é  "}, {"é", 3, false, true, "00é"}, {"éàü", 3, false, false, "éàü"}, {"éàü", 4, false, false, " éàü"}, {"😀", 2, false, false, " 😀"}, {"\xff\xfe", 3, false, false, " \xff\xfe"}, {"\xe2\x82", 3, false, false, " \xe2\x82"}, {"a\xc3", 3, true, false, "a\xc3 "}, {"-é", 4, false, true, "-00é"},
		// How wide counts as 0, or as MaxWidth.
		{"a", -1, false, false, "a"}, {"a", math.MinInt, false, true, "a"}, {"a", math.MinInt, true, false, "a"}, {"", -5, false, true, ""}, {"-", -3, true, false, "-"}, {"a", 200, false, false, strings.Repeat(" ", 199) + "a"}, {"a", 201, false, false, strings.Repeat(" ", 199) + "a"}, {"a", math.MaxInt, true, false, "a" + strings.Repeat(" ", 199)}, {"-a", 1 << 40, false, true, "-" + strings.Repeat("0", 198) + "a"}, {"a", 199, false, false, strings.Repeat(" ", 198) + "a"},
		{strings.Repeat("a", 300), math.MaxInt, false, false, strings.Repeat("a", 300)}, {strings.Repeat("a", 300), 250, true, true, strings.Repeat("a", 300)}, {strings.Repeat("é", 150), 200, false, false, strings.Repeat(" ", 50) + strings.Repeat("é", 150)}, {strings.Repeat("a", 200), 200, false, true, strings.Repeat("a", 200)},
	} {
		if s := format.Pad(x.s, x.wide, x.left, x.zero); s != x.want {
			t.Errorf("Pad(%q, %d, %t, %t): %q, not %q", x.s, x.wide, x.left, x.zero, s, x.want)
		}
	}
}

// P10.4: which letters the flag 0 pads: d, i, o, x, X without a precision, and f; the flag - goes ahead of it.
func TestZeroFlag(t *testing.T) {
	for _, x := range []struct{ letters, f, want string }{
		{"dioxX", "%05", "00007"}, {"dioxX", "%05.1", "    7"}, {"dioxX", "%05.", "    7"}, {"dioxX", "%05.0", "    7"}, {"dioxX", "%05.2", "   07"}, {"dioxX", "%-05", "7    "}, {"dioxX", "%0-5", "7    "}, {"dioxX", "%5", "    7"}, {"dioxX", "%-5", "7    "}, {"dioxX", "%0", "7"}, {"dioxX", "%05.5", "00007"},
		{"f", "%010", "007.000000"}, {"f", "%05.1", "007.0"}, {"f", "%05.", "00007"}, {"f", "%05.0", "00007"}, {"f", "%-05.1", "7.0  "}, {"f", "%5.1", "  7.0"},
		{"s", "%05", "    7"}, {"s", "%05.1", "    7"}, {"s", "%-05", "7    "},
	} {
		for _, letter := range x.letters {
			f := x.f + string(letter)
			if s, e := format.Do(f, l(7)); s != x.want || e != api.OK {
				t.Errorf("Do(%q, 7): %q, %v, not %q", f, s, e, x.want)
			}
		}
	}
	hold(t, []row{{"%05.*d", l(1, 7), "    7"}, {"%0*.*d", l(5, 1, 7), "    7"}, {"%0*d", l(5, -7), "-0007"}, {"%-0*d|", l(5, -7), "-7   |"}, {"%0*.*f", l(6, 1, -7), "-007.0"}, {"%05c", l("7"), "    7"}, {"%05.*x", nil, "     "}})
}

// P10.5: how many cells are taken.
func TestCount(t *testing.T) {
	for _, x := range []struct {
		f    string
		want int
	}{
		{"", 0}, {"abc", 0}, {"%d", 1}, {"%i%o%x%X%c%s%f", 7}, {"a%db%sc", 2}, {"%%", 0}, {"%%%d%%", 1}, {"%%d", 0}, {"%5%", 0}, {"%*%", 1}, {"%.*%", 1}, {"%*.*%", 2}, {"%*d", 2}, {"%.*d", 2}, {"%*.*d", 3}, {"%-+ 0*.*f", 3}, {"%*.5d", 2}, {"%5.*d", 2}, {"%5.d", 1}, {"%.d", 1}, {"%200.200d", 1}, {"%*d%*.*s%%%c", 6}, {"*", 0}, {"%d*%s", 2}, {"%5.2f|%-4d|%x", 3}, {"%0000200d", 1}, {strings.Repeat("%s", 5000), 5000}, {strings.Repeat("%*.*f", 3000), 9000}, {"é%d\xff%s", 2},
	} {
		if n, e := format.Count(x.f); n != x.want || e != api.OK {
			t.Errorf("Count(%q): %d, %v, not %d", x.f, n, e, x.want)
		}
	}
	for _, f := range []string{
		"%", "%d%", "abc%", "%%%", "%-", "%5", "%*", "%.", "%.*", "%*.*", "%5.5", "%d %s %", "%z", "%d%z", "%z%d", "%s%s%é", "%\xff", "%5-d", "%**d", "%*5d", "%5*d", "%..d", "%.-1d",
		"%201d", "%.201d", "%d%201%", "%*.201d", "%201.*d", "%0201s", "%.00201s", "%4294967301d", "%.18446744073709551621d", "%99999999999999999999f", "%" + strings.Repeat("9", 5000) + "d",
	} {
		if n, e := format.Count(f); n != 0 || e != api.ErrFormat {
			t.Errorf("Count(%q): %d, %v", f, n, e)
		}
	}
}

// P10.1: cells that can't be are asked as their kind says.
func TestBrokenCells(t *testing.T) {
	great := "99999999999999999999"
	hold(t, []row{
		{"%d|%s|%c", l(api.Cell{N: 7 * one, S: "8"}, api.Cell{N: 7 * one, S: "8"}, api.Cell{N: 65 * one, S: "8"}), "0||"},
		{"%d|%s|%c", l(api.Cell{K: 9, N: 7 * one, S: "8"}, api.Cell{K: -1, N: 7 * one, S: great}, api.Cell{K: 4, N: 65 * one, S: "8"}), "0||"},
		{"%d|%s|%c", l(api.Cell{K: api.Number, N: 7 * one, S: great}, api.Cell{K: api.Number, N: 7 * one, S: "8"}, api.Cell{K: api.Number, N: 65 * one, S: "8"}), "7|7|A"},
		{"%d|%s|%c", l(api.Cell{K: api.Looks, N: 7 * one, S: great}, api.Cell{K: api.Looks, N: 7 * one, S: "8"}, api.Cell{K: api.Looks, N: 65 * one, S: "8"}), "7|8|8"},
		{"%d|%s|%c", l(api.Cell{K: api.Text, N: 7 * one, S: "9"}, api.Cell{K: api.Text, N: 7 * one, S: "8"}, api.Cell{K: api.Text, N: 65 * one, S: "8"}), "9|8|8"},
		{"%*d", l(api.Cell{K: 9, N: 7 * one, S: great}, 7), "7"},
	})
}

// P10.1: the cells that are handed in are not changed, nor those behind them; what is made does not hang on what was made.
func TestCellsStay(t *testing.T) {
	all := l(4, 2, int64(3141590), "abc", looks("7"), nil, "spare", "room")
	was := slices.Clone(all)
	for range 3 {
		if s, e := format.Do("%*.*f|%5s|%03d|%s|%s|", all[:6]); s != "3.14|  abc|007|||" || e != api.OK {
			t.Errorf("%q, %v", s, e)
		}
		if s, e := format.Do("%*.*f%z", all[:6]); s != "" || e != api.ErrFormat {
			t.Errorf("%q, %v", s, e)
		}
		if !slices.Equal(all, was) {
			t.Fatalf("%v, not %v", all, was)
		}
	}
}

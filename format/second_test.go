package format_test

import (
	"math"
	"math/big"
	"math/rand"
	"regexp"
	"slices"
	"strconv"
	"strings"
	"testing"
	"unicode/utf8"

	"auklet/api"
	"auklet/cell"
	"auklet/format"
	"auklet/samples"
)

// begins is a directive at the beginning of a text: its flags, its width, its point, its precision, its letter.
var begins = regexp.MustCompile(`^%([-+ 0]*)([0-9]+|\*)?(\.?)([0-9]+|\*)?([dioxXcsf%])`)

// second is what a format makes, or its error, as the document tells it, by a pattern and by big numbers: it stops at the first error, which it panics with.
type second struct{ left []api.Cell }

func (x *second) next() api.Cell {
	if len(x.left) == 0 {
		return api.Cell{}
	}
	c := x.left[0]
	x.left = x.left[1:]
	return c
}

// number is what a cell tells as a number.
func (x *second) number(c api.Cell) *big.Int {
	n, e := cell.Num(c)
	if e != api.OK {
		panic(e)
	}
	return big.NewInt(n)
}

// size is a width or a precision; of none it is -1.
func (x *second) size(s string) int {
	if s == "" {
		return -1
	}
	n, _ := new(big.Int).SetString(s, 10)
	if s == "*" {
		n = x.number(x.next())
		n.Quo(n, big.NewInt(1000000))
	}
	if n.Sign() < 0 || n.Cmp(big.NewInt(200)) > 0 {
		panic(api.ErrFormat)
	}
	return int(n.Int64())
}

// tooWide tells whether the digits of s are a number above the widths that there are.
func tooWide(s string) bool {
	s = strings.TrimLeft(s, "0")
	return s != "*" && (len(s) > 3 || len(s) == 3 && s > "200")
}

func (x *second) do(f string) string {
	at := strings.IndexByte(f, '%')
	if at < 0 {
		return f
	}
	m := begins.FindStringSubmatch(f[at:])
	// Digits without a point ahead would all be the width's.
	if m == nil || m[3] == "" && m[4] != "" || tooWide(m[2]) || tooWide(m[4]) {
		panic(api.ErrFormat)
	}
	wide, exact := x.size(m[2]), x.size(m[4])
	if m[3] != "" && m[4] == "" {
		exact = 0
	}
	made := f[:at] + x.made(m[1], wide, exact, m[5])
	return made + x.do(f[at+len(m[0]):])
}

// made is what a directive makes of the next cell.
func (x *second) made(flags string, wide, exact int, letter string) string {
	if letter == "%" {
		return "%"
	}
	c := x.next()
	sign, body := "", ""
	switch letter {
	case "s":
		body = cell.Str(c)
		if l := strings.SplitAfter(body, ""); exact >= 0 && exact < len(l) {
			body = strings.Join(l[:exact], "")
		}
	case "c":
		body = character(c)
	default:
		sign, body = x.written(flags, exact, letter, x.number(c))
	}
	missing := max(wide-utf8.RuneCountInString(sign+body), 0)
	switch {
	case strings.Contains(flags, "-"):
		return sign + body + strings.Repeat(" ", missing)
	case strings.Contains(flags, "0") && (letter == "f" || exact < 0 && strings.Contains("dioxX", letter)):
		return sign + strings.Repeat("0", missing) + body
	}
	return strings.Repeat(" ", missing) + sign + body
}

// character is what c makes of a cell.
func character(c api.Cell) string {
	if c.K != api.Number {
		s := cell.Str(c)
		_, n := utf8.DecodeRuneInString(s)
		return s[:n]
	}
	n := c.N / 1000000
	if n < 0 || n > 0x10ffff || n >= 0xd800 && n < 0xe000 {
		panic(api.ErrFormat)
	}
	return string(utf8.AppendRune(nil, rune(n)))
}

// written is a number's sign and digits.
func (x *second) written(flags string, exact int, letter string, n *big.Int) (string, string) {
	whole := new(big.Int).Quo(n, big.NewInt(1000000))
	base := map[string]int{"d": 10, "i": 10, "o": 8, "x": 16, "X": 16}[letter]
	sign, body := "", ""
	switch letter {
	case "f":
		if exact < 0 {
			exact = 6
		}
		body = new(big.Rat).SetFrac(n, big.NewInt(1000000)).FloatString(exact)
		if n.Sign() < 0 {
			sign, body = "-", strings.TrimPrefix(body, "-")
		}
	case "d", "i":
		body = new(big.Int).Abs(whole).Text(base)
		if whole.Sign() < 0 {
			sign = "-"
		}
	default:
		// Mod of big numbers is never below 0.
		body = new(big.Int).Mod(whole, new(big.Int).Lsh(big.NewInt(1), 64)).Text(base)
	}
	if letter == "X" {
		body = strings.ToUpper(body)
	}
	if letter != "f" {
		if exact == 0 && body == "0" {
			body = ""
		}
		body = strings.Repeat("0", max(exact-len(body), 0)) + body
	}
	if sign == "" && strings.Contains("dif", letter) {
		switch {
		case strings.Contains(flags, "+"):
			sign = "+"
		case strings.Contains(flags, " "):
			sign = " "
		}
	}
	return sign, body
}

// want is what the second reading tells of a format.
func want(f string, cells []api.Cell) (s string, e api.Errno) {
	defer func() {
		if p := recover(); p != nil {
			s, e = "", p.(api.Errno)
		}
	}()
	return (&second{cells}).do(f), api.OK
}

// wantCount is how many cells a format takes: it is asked with cells that are right for all.
func wantCount(f string) (n int, e api.Errno) {
	all := slices.Repeat(l(1), 2*len(f)+1)
	x := &second{all}
	defer func() {
		if p := recover(); p != nil {
			n, e = 0, p.(api.Errno)
		}
	}()
	x.do(f)
	return len(all) - len(x.left), api.OK
}

// holdSecond holds Do and Count against the second reading.
func holdSecond(t *testing.T, f string, cells []api.Cell) {
	t.Helper()
	s, e := format.Do(f, cells)
	if wantS, wantE := want(f, cells); s != wantS || e != wantE {
		t.Fatalf("Do(%q, %v): %q, %v, not %q, %v", f, cells, s, e, wantS, wantE)
	}
	n, e := format.Count(f)
	if wantN, wantE := wantCount(f); n != wantN || e != wantE {
		t.Fatalf("Count(%q): %d, %v, not %d, %v", f, n, e, wantN, wantE)
	}
}

// some are cells of all kinds.
func some() []api.Cell {
	return l(nil, 0, 1, 3, -1, 65, 200, 201, 255, -255, int64(-1), int64(499999), int64(-500000), int64(2500000), int64(-1999999), int64(math.MaxInt64), int64(math.MinInt64), 55296, 1114111, 1114112,
		"", "abc", "éàü", "\xff\xc3\xa9", "2", "-3x", " 5.5", "99999999999999999999", looks("0"), looks(" 4 "), looks("-1.5"), looks("+2.50"), "250", "-", "%")
}

// P10.1, P10.2, P10.4, P10.5: all short formats.
func TestShortFormats(t *testing.T) {
	cells := l(3, 2, int64(-1500000), "é")
	for _, f := range samples.Joined(6, "%", "-", "0", "+", "4", "*", ".", "d", "f") {
		holdSecond(t, f, cells)
	}
	for _, f := range samples.Joined(3, "%", " ", "200", "201", "*", ".", "x", "c", "s", "é") {
		holdSecond(t, f, cells)
		holdSecond(t, "%"+f, l("4", "é", 7))
		holdSecond(t, "%"+f+"s", l(looks("2.5"), -1, "99999999999999999999"))
	}
}

// P10.1, P10.2, P10.4: each letter with all flags, widths and precisions, of cells of all kinds.
func TestEachDirective(t *testing.T) {
	for _, flags := range []string{"", "-", "+", " ", "0", "-0", "+0", " 0", "+ ", "-+", "- ", "0+ -"} {
		for _, wide := range []string{"", "1", "6", "30"} {
			for _, exact := range []string{"", ".", ".0", ".1", ".3", ".6", ".9", ".30"} {
				for _, letter := range "dioxXcsf%" {
					f := "<%" + flags + wide + exact + string(letter) + ">"
					for _, c := range some() {
						holdSecond(t, f, l(c))
					}
				}
			}
		}
	}
}

// P10.1: stars, of cells of all kinds.
func TestEachStar(t *testing.T) {
	for _, f := range []string{"%*d", "%.*d", "%0*x", "%.*s", "%-*c", "%.*f", "%*%"} {
		for _, c := range some() {
			for _, d := range some() {
				holdSecond(t, f, l(c, d))
			}
		}
	}
	for _, f := range []string{"%*.*d", "%-*.*s", "%0*.*f|%d", "%*.*%%d"} {
		for _, c := range some() {
			for _, d := range some() {
				for _, x := range l(nil, -7, "éàü", 55296, "99999999999999999999") {
					holdSecond(t, f, l(c, d, x))
				}
			}
		}
	}
}

// grown is a format of several directives, most of them right.
func grown(pick func(n int) int) string {
	oneOf := func(of ...string) string { return of[pick(len(of))] }
	var b strings.Builder
	for range pick(5) {
		b.WriteString(oneOf("", "a", "é ", "\xff", "%%", "-5.", "%5%"))
		b.WriteString("%" + oneOf("", "", "-", "+", " ", "0", "0-", "+ 0") + oneOf("", "", "3", "8", "*", "200") + oneOf("", "", ".", ".2", ".*", ".7"))
		b.WriteString(oneOf("d", "i", "o", "x", "X", "c", "s", "f", "%", "d", "s", "f"))
	}
	if pick(8) == 0 {
		b.WriteString(oneOf("%", "%z", "%201d", "%.201%", "%*", "% é"))
	}
	return b.String()
}

// taken are so many cells, most of them right for all.
func taken(pick func(n int) int, many int) []api.Cell {
	all := some()
	var cells []api.Cell
	for range many {
		if pick(3) == 0 {
			cells = append(cells, all[pick(len(all))])
		} else {
			cells = append(cells, l(0, 1, 4, 12, 65, "7", looks(" 9"), nil, int64(2500000), "é")[pick(10)])
		}
	}
	return cells
}

// P10.1, P10.2, P10.4, P10.5: formats of several directives, and any bytes.
func TestLongFormats(t *testing.T) {
	numbers := rand.New(rand.NewSource(10))
	for range 20000 {
		holdSecond(t, grown(numbers.Intn), taken(numbers.Intn, numbers.Intn(12)))
		holdSecond(t, samples.Bytes(numbers.Intn, "%%%%%-+ 0125*..dioxXcsfz\xc3\xa9\xff", 12), taken(numbers.Intn, numbers.Intn(6)))
	}
}

// P10.6: a format without % is what is made, whatever cells there are.
func TestPlain(t *testing.T) {
	numbers := rand.New(rand.NewSource(10))
	for range 5000 {
		f := samples.Bytes(numbers.Intn, "ad5*.-+ \\\n\x00\xc3\xa9\xff", 20)
		if s, e := format.Do(f, taken(numbers.Intn, numbers.Intn(4))); s != f || e != api.OK {
			t.Fatalf("Do(%q): %q, %v", f, s, e)
		}
		if n, e := format.Count(f); n != 0 || e != api.OK {
			t.Fatalf("Count(%q): %d, %v", f, n, e)
		}
	}
}

// P10.6: what two formats make, one behind the other, is what both make, joined.
func TestBothJoined(t *testing.T) {
	numbers := rand.New(rand.NewSource(10))
	made := 0
	for range 20000 {
		f, g := grown(numbers.Intn), grown(numbers.Intn)
		all := taken(numbers.Intn, 24)
		n, e := format.Count(f)
		if e != api.OK {
			continue
		}
		first, e := format.Do(f, all[:n])
		if e != api.OK {
			continue
		}
		second, e := format.Do(g, all[n:])
		want := first + second
		if e != api.OK {
			want = ""
		} else {
			made++
		}
		if s, got := format.Do(f+g, all); s != want || got != e {
			t.Fatalf("Do(%q, %v): %q, %v, not %q, %v", f+g, all, s, got, want, e)
		}
	}
	if made < 1000 {
		t.Error("only", made, "were made")
	}
}

// P10.3: numbers of all sizes, against rationals.
func TestFixedAgainstRationals(t *testing.T) {
	numbers := rand.New(rand.NewSource(10))
	check := func(n int64, digits int) {
		want := new(big.Rat).SetFrac(big.NewInt(n), big.NewInt(1000000)).FloatString(min(max(digits, 0), 200))
		if n < 0 {
			want = "-" + strings.TrimPrefix(want, "-")
		}
		if s := format.Fixed(n, digits); s != want {
			t.Fatalf("Fixed(%d, %d): %q, not %q", n, digits, s, want)
		}
	}
	for n := int64(-3000); n <= 3000; n++ {
		for digits := -1; digits < 9; digits++ {
			check(n, digits)
			check(n*1000, digits)
			check(n*5000+5, digits)
		}
	}
	for range 50000 {
		check(int64(numbers.Uint64())>>numbers.Intn(64), numbers.Intn(9)-1)
	}
	for digits := range 205 {
		check(-1234567, digits)
	}
}

// P10.3: whole parts of all sizes, against those of the library.
func TestWholeAgainstLibrary(t *testing.T) {
	numbers := rand.New(rand.NewSource(10))
	for range 50000 {
		n := int64(numbers.Uint64()) >> numbers.Intn(64)
		whole := n / one
		for _, base := range []int{8, 10, 16} {
			want := strconv.FormatUint(uint64(whole), base)
			if base == 10 {
				want = strings.TrimPrefix(strconv.FormatInt(whole, 10), "-")
			}
			if s := format.Whole(n, base, false); s != want {
				t.Fatalf("Whole(%d, %d): %q, not %q", n, base, s, want)
			}
			if s := format.Whole(n, base, true); s != strings.ToUpper(want) {
				t.Fatalf("Whole(%d, %d), great: %q, not %q", n, base, s, strings.ToUpper(want))
			}
		}
	}
}

// P10.4: all short texts of signs and characters, padded in all ways.
func TestPadAll(t *testing.T) {
	for _, s := range samples.Joined(4, "-", "+", " ", "0", "é", "\xff") {
		for wide := -2; wide < 8; wide++ {
			missing := max(wide-utf8.RuneCountInString(s), 0)
			blanks, noughts := strings.Repeat(" ", missing), strings.Repeat("0", missing)
			zeroed := noughts + s
			if strings.HasPrefix(s, "-") || strings.HasPrefix(s, "+") || strings.HasPrefix(s, " ") {
				zeroed = s[:1] + noughts + s[1:]
			}
			for _, x := range []struct {
				left, zero bool
				want       string
			}{{false, false, blanks + s}, {true, false, s + blanks}, {false, true, zeroed}, {true, true, s + blanks}} {
				if got := format.Pad(s, wide, x.left, x.zero); got != x.want {
					t.Fatalf("Pad(%q, %d, %t, %t): %q, not %q", s, wide, x.left, x.zero, got, x.want)
				}
			}
		}
	}
}

// A long format of many directives ends soon.
func TestManyDirectives(t *testing.T) {
	const many = 200000
	f, all := strings.Repeat("%d,%s;", many), slices.Repeat(l(7, "a"), many)
	if s, e := format.Do(f, all); s != strings.Repeat("7,a;", many) || e != api.OK {
		t.Error(len(s), e)
	}
	if n, e := format.Count(f); n != 2*many || e != api.OK {
		t.Error(n, e)
	}
	if s, e := format.Do(f+"%", all); s != "" || e != api.ErrFormat {
		t.Error(len(s), e)
	}
}

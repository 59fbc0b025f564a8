package text_test

import (
	"math"
	"math/big"
	"slices"
	"strings"
	"testing"
	"unicode/utf8"

	"auklet/text"
)

// pieces are characters, and bytes that are none where they stand alone, but may be joined to some.
func pieces() []string {
	return []string{"a", "B", " ", "\x00", "\x7f", "\x80", "\xbf", "\xc0", "\xff", "\u00e9", "\xc3", "\xa9", "\u20ac", "\xe2\x82", "\xe2", "\x82", "\xac", "\U0001f600", "\xf0\x9f\x98", "\x98\x80", "\ufffd", "\xed\xa0\x80", "\xe0\x80\x80", "\xf4\x90\x80\x80", "\U0010ffff"}
}

// allOf are all texts of at most so many of the pieces.
func allOf(parts []string, most int) []string {
	l := []string{""}
	for begin := 0; most > 0; most-- {
		end := len(l)
		for _, s := range l[begin:end] {
			for _, p := range parts {
				l = append(l, s+p)
			}
		}
		begin = end
	}
	return l
}

// charsOracle parts a text as package utf8 reads it.
func charsOracle(s string) []string {
	l := []string{}
	for s != "" {
		_, wide := utf8.DecodeRuneInString(s)
		l = append(l, s[:wide])
		s = s[wide:]
	}
	return l
}

// P2.1: characters as they stand in tables: runes of one to four bytes, and bytes that are none.
func TestCharsTable(t *testing.T) {
	for _, x := range []struct {
		s    string
		want []string
	}{
		{"", nil},
		{"a", []string{"a"}},
		{"hello", []string{"h", "e", "l", "l", "o"}},
		{"\x00\x7f\n", []string{"\x00", "\x7f", "\n"}},
		{"a\u00e9\u20ac\U0001f600b", []string{"a", "\xc3\xa9", "\xe2\x82\xac", "\xf0\x9f\x98\x80", "b"}},
		{"e\u0301", []string{"e", "\xcc\x81"}},
		{"\ufffd\ufffd", []string{"\xef\xbf\xbd", "\xef\xbf\xbd"}},
		{"\x80", []string{"\x80"}},
		{"\xff\xfe", []string{"\xff", "\xfe"}},
		{"\xc3", []string{"\xc3"}},
		{"\xc3a", []string{"\xc3", "a"}},
		{"\xa9\xc3", []string{"\xa9", "\xc3"}},
		{"\xe2\x82", []string{"\xe2", "\x82"}},
		{"\xe2\x82\xe2\x82\xac", []string{"\xe2", "\x82", "\xe2\x82\xac"}},
		{"\xf0\x9f\x98", []string{"\xf0", "\x9f", "\x98"}},
		{"\xf0\x9f\x98\x80\x80", []string{"\xf0\x9f\x98\x80", "\x80"}},
		{"\xc0\x80", []string{"\xc0", "\x80"}},
		{"\xe0\x80\x80", []string{"\xe0", "\x80", "\x80"}},
		{"\xed\xa0\x80", []string{"\xed", "\xa0", "\x80"}},
		{"\xf4\x8f\xbf\xbf", []string{"\xf4\x8f\xbf\xbf"}},
		{"\xf4\x90\x80\x80", []string{"\xf4", "\x90", "\x80", "\x80"}},
	} {
		if l := text.Chars(x.s); !slices.Equal(l, x.want) {
			t.Errorf("Chars(%q): %q, want %q", x.s, l, x.want)
		}
		if n := text.Len(x.s); n != len(x.want) {
			t.Errorf("Len(%q): %d, want %d", x.s, n, len(x.want))
		}
	}
}

// P2.1: characters of all texts of a few pieces; joined, they are the text.
func TestCharsAll(t *testing.T) {
	for _, s := range allOf(pieces(), 3) {
		l, want := text.Chars(s), charsOracle(s)
		if !slices.Equal(l, want) {
			t.Fatalf("Chars(%q): %q, want %q", s, l, want)
		}
		if n := text.Len(s); n != len(want) {
			t.Fatalf("Len(%q): %d, want %d", s, n, len(want))
		}
		if strings.Join(l, "") != s {
			t.Fatalf("Chars(%q), joined: %q", s, strings.Join(l, ""))
		}
	}
}

// P2.1: long texts, and all bytes.
func TestCharsLong(t *testing.T) {
	all := make([]byte, 256)
	for i := range all {
		all[i] = byte(i)
	}
	for _, s := range []string{string(all), strings.Repeat("\u20ac", 100000), strings.Repeat("\x80", 100000), strings.Repeat("a\xe2\x82", 50000)} {
		want := charsOracle(s)
		if l := text.Chars(s); !slices.Equal(l, want) || text.Len(s) != len(want) {
			t.Errorf("%.20q of %d bytes: %d characters, Len %d, want %d", s, len(s), len(l), text.Len(s), len(want))
		}
	}
}

// P2.1, P2.4: what is answered is new memory: neither another answer nor the next one is changed with it, spare room included.
func TestNewLists(t *testing.T) {
	for name, f := range map[string]func(string) []string{"Chars": text.Chars, "Words": text.Words} {
		const s = "a b c d e"
		a, b := f(s), f(s)
		want := slices.Clone(b)
		_ = append(a, "x")
		a = a[:cap(a)]
		for i := range a {
			a[i] = "x"
		}
		if !slices.Equal(b, want) || !slices.Equal(f(s), want) {
			t.Error(name, "shares its answers:", b, f(s))
		}
	}
}

// P2.2: places from 1 on, as far as there are such.
func TestSubTable(t *testing.T) {
	for _, x := range []struct {
		s          string
		from, many int
		want       string
	}{
		{"hello", 2, 3, "ell"},
		{"hello", 0, 2, "h"},
		{"hello", 1, 5, "hello"},
		{"hello", 1, 6, "hello"},
		{"hello", 1, 1, "h"},
		{"hello", 5, 1, "o"},
		{"hello", 5, 9, "o"},
		{"hello", 6, 1, ""},
		{"hello", 3, 0, ""},
		{"hello", 3, -1, ""},
		{"hello", 0, 1, ""},
		{"hello", -3, 4, ""},
		{"hello", -3, 5, "h"},
		{"hello", -3, 100, "hello"},
		{"", 1, 1, ""},
		{"", 0, 5, ""},
		{"a\u00e9\u20ac\U0001f600b", 2, 3, "\u00e9\u20ac\U0001f600"},
		{"a\u00e9\u20ac\U0001f600b", 4, 1, "\U0001f600"},
		{"\xe2\x82a\xe2\x82\xac", 2, 3, "\x82a\u20ac"},
		{"\xff\ufffd\xff", 1, 2, "\xff\ufffd"},
	} {
		if got := text.Sub(x.s, x.from, x.many); got != x.want {
			t.Errorf("Sub(%q, %d, %d): %q, want %q", x.s, x.from, x.many, got, x.want)
		}
	}
}

// P2.2: places are reckoned as if numbers had no end.
func TestSubFar(t *testing.T) {
	const most, least = math.MaxInt, math.MinInt
	for _, x := range []struct {
		from, many int
		want       string
	}{
		{1, most, "hello"},
		{2, most, "ello"},
		{5, most, "o"},
		{6, most, ""},
		{most, most, ""},
		{most, 1, ""},
		{most - 1, 2, ""},
		{0, most, "hello"},
		{-1, most, "hello"},
		{1 - most, most, ""},
		{2 - most, most, "h"},
		{3 - most, most, "he"},
		{6 - most, most, "hello"},
		{7 - most, most, "hello"},
		{-most, most, ""},
		{least, most, ""},
		{least, 1, ""},
		{least, 0, ""},
		{least, least, ""},
		{least, -1, ""},
		{1, least, ""},
		{0, least, ""},
		{-5, least, ""},
		{most, least, ""},
		{most, -most, ""},
	} {
		if got := text.Sub("hello", x.from, x.many); got != x.want {
			t.Errorf("Sub(hello, %d, %d): %q, want %q", x.from, x.many, got, x.want)
		}
	}
}

// subOracle asks of each character whether its place is one of those, by big numbers.
func subOracle(s string, from, many int) string {
	end, b := new(big.Int).Add(big.NewInt(int64(from)), big.NewInt(int64(many))), ""
	for i, c := range charsOracle(s) {
		place := big.NewInt(int64(i + 1))
		if place.Cmp(big.NewInt(int64(from))) >= 0 && place.Cmp(end) < 0 {
			b += c
		}
	}
	return b
}

// P2.2: Sub at all places near a text's ends, and near those of int.
func TestSubAll(t *testing.T) {
	places := []int{}
	for i := -7; i <= 9; i++ {
		places = append(places, i)
	}
	for i := range 8 {
		places = append(places, math.MaxInt-i, math.MinInt+i, math.MaxInt/2-3+i, math.MinInt/2-3+i)
	}
	for _, s := range []string{"", "a", "hello", "a\u00e9\u20ac\U0001f600b", "\xe2\x82\u20ac\xff\xe2", "\x80\x80\x80"} {
		for _, from := range places {
			for _, many := range places {
				if got, want := text.Sub(s, from, many), subOracle(s, from, many); got != want {
					t.Fatalf("Sub(%q, %d, %d): %q, want %q", s, from, many, got, want)
				}
			}
		}
	}
}

// P2.2: the first place, in characters.
func TestIndexTable(t *testing.T) {
	for _, x := range []struct {
		s, t string
		want int
	}{
		{"banana", "na", 3},
		{"banana", "b", 1},
		{"banana", "banana", 1},
		{"banana", "bananas", 0},
		{"banana", "nab", 0},
		{"banana", "N", 0},
		{"aab", "ab", 2},
		{"aabaaab", "aaab", 4},
		{"banana", "", 1},
		{"", "", 1},
		{"", "a", 0},
		{"\u20ac", "", 1},
		{"\u20ac\u00e9a", "a", 3},
		{"\u20ac\u00e9a", "\u00e9", 2},
		{"\U0001f600\U0001f600b", "\U0001f600b", 2},
		{"\xff\xfea", "a", 3},
		{"a\x80\x80", "\x80", 2},
		{"a\xe2", "\xe2", 2},
		{"a\x00b", "\x00b", 2},
	} {
		if got := text.Index(x.s, x.t); got != x.want {
			t.Errorf("Index(%q, %q): %d, want %d", x.s, x.t, got, x.want)
		}
	}
}

// P2.2: bytes that begin, or end, within a character of s are not found there.
func TestIndexWithin(t *testing.T) {
	for _, x := range []struct {
		s, t string
		want int
	}{
		{"\u00e9", "\xc3", 0},
		{"\u00e9", "\xa9", 0},
		{"\u20ac", "\xe2\x82", 0},
		{"\u20ac", "\x82\xac", 0},
		{"\U0001f600", "\xf0\x9f\x98", 0},
		{"\U0001f600", "\x80", 0},
		{"a\u00e9", "a\xc3", 0},
		{"\u00e9a", "\xa9a", 0},
		{"\u00e9\u00e9", "\xa9\xc3", 0},
		{"\u00e9\xa9", "\xa9", 2},
		{"\u20ac\xe2\x82", "\xe2\x82", 2},
		{"\u20ac\x82\xac\xe2\x82\xac", "\x82\xac", 2},
		{"a\u00e9a\xc3a\u00e9", "a\xc3", 3},
		{"\U0001f600\x80a", "\x80a", 2},
		{"\xf0\x9f\x98a", "\x98a", 3},
	} {
		if got := text.Index(x.s, x.t); got != x.want {
			t.Errorf("Index(%q, %q): %d, want %d", x.s, x.t, got, x.want)
		}
	}
}

// indexOracle holds lists of characters against each other at each place.
func indexOracle(s, t string) int {
	l, m := charsOracle(s), charsOracle(t)
	for i := range len(l) + 1 {
		if len(l)-i >= len(m) && slices.Equal(l[i:i+len(m)], m) {
			return i + 1
		}
	}
	return 0
}

// P2.2, P2.6: Index of all pairs of short texts; where it is found, Sub of t's Len is t.
func TestIndexAll(t *testing.T) {
	hold := func(s, part string) {
		n := text.Index(s, part)
		if want := indexOracle(s, part); n != want {
			t.Fatalf("Index(%q, %q): %d, want %d", s, part, n, want)
		}
		if n > 0 && text.Sub(s, n, text.Len(part)) != part {
			t.Fatalf("Sub(%q) at Index of %q: %q", s, part, text.Sub(s, n, text.Len(part)))
		}
	}
	parts := allOf([]string{"a", "\xc3", "\xa9", "\xe2", "\x82", "\xac"}, 3)
	for _, s := range allOf([]string{"a", "\xc3", "\xa9", "\u20ac", "\xe2\x82", "\xac"}, 4) {
		for _, part := range parts {
			hold(s, part)
		}
	}
	some := allOf(pieces(), 2)
	for i, s := range some {
		for j := range 40 {
			hold(s+"a\U0001f600\xf0\x9f"+s, some[(i*31+j*17)%len(some)])
			hold(s, some[(i*31+j*17)%len(some)])
		}
	}
}

// P2.2, P2.6: Index of long texts comes to an end, at the right place.
func TestIndexLong(t *testing.T) {
	const many = 200000
	as, euros := strings.Repeat("a", many), strings.Repeat("\u20ac", many)
	for _, x := range []struct {
		s, t string
		want int
	}{
		{as, as[1:] + "b", 0},
		{as + "b", as[many/2:] + "b", many/2 + 1},
		{euros, "\x82", 0},
		{euros + "\x82", "\x82", many + 1},
		{euros + "a", "\u20aca", many},
		{euros, euros, 1},
	} {
		if got := text.Index(x.s, x.t); got != x.want {
			t.Errorf("Index(%.9q.., %.9q..): %d, want %d", x.s, x.t, got, x.want)
		}
	}
}

// P2.3: just the bytes A to Z, and a to z.
func TestCases(t *testing.T) {
	for _, x := range []struct{ s, lower, upper string }{
		{"", "", ""},
		{"Hello, World 1", "hello, world 1", "HELLO, WORLD 1"},
		{"AZaz", "azaz", "AZAZ"},
		{"@[`{", "@[`{", "@[`{"},
		{"\u00c9\u00e9\u0130\u0131\u00df\u212a\u017f", "\u00c9\u00e9\u0130\u0131\u00df\u212a\u017f", "\u00c9\u00e9\u0130\u0131\u00df\u212a\u017f"},
		{"\xc3A\xffz\x00", "\xc3a\xffz\x00", "\xc3A\xffZ\x00"},
	} {
		if got := text.Lower(x.s); got != x.lower {
			t.Errorf("Lower(%q): %q, want %q", x.s, got, x.lower)
		}
		if got := text.Upper(x.s); got != x.upper {
			t.Errorf("Upper(%q): %q, want %q", x.s, got, x.upper)
		}
	}
	const small, great = "abcdefghijklmnopqrstuvwxyz", "ABCDEFGHIJKLMNOPQRSTUVWXYZ"
	for i := range 256 {
		s := string([]byte{byte(i)})
		lower, upper := s, s
		if at := strings.Index(great, s); at >= 0 {
			lower = small[at : at+1]
		}
		if at := strings.Index(small, s); at >= 0 {
			upper = great[at : at+1]
		}
		if text.Lower(s) != lower || text.Upper(s) != upper {
			t.Errorf("%q: %q, %q; want %q, %q", s, text.Lower(s), text.Upper(s), lower, upper)
		}
	}
}

// P2.4: without blanks at both ends, and the runs between blanks.
func TestBlanks(t *testing.T) {
	for _, x := range []struct {
		s, trimmed string
		words      []string
	}{
		{"", "", nil},
		{" ", "", nil},
		{" \t\n \n\t", "", nil},
		{"a", "a", []string{"a"}},
		{" a b ", "a b", []string{"a", "b"}},
		{"\n\ta \t\n b\tc\nd", "a \t\n b\tc\nd", []string{"a", "b", "c", "d"}},
		{"one  two", "one  two", []string{"one", "two"}},
		{"\ra\v\fb\x00", "\ra\v\fb\x00", []string{"\ra\v\fb\x00"}},
		{"\r a \r", "\r a \r", []string{"\r", "a", "\r"}},
		{"\u00a0a\u2003b\u0085", "\u00a0a\u2003b\u0085", []string{"\u00a0a\u2003b\u0085"}},
		{" \u20ac \xff\x80 \xe2\x82 ", "\u20ac \xff\x80 \xe2\x82", []string{"\u20ac", "\xff\x80", "\xe2\x82"}},
		{"\xe2\x82 \xac", "\xe2\x82 \xac", []string{"\xe2\x82", "\xac"}},
	} {
		if got := text.Trim(x.s); got != x.trimmed {
			t.Errorf("Trim(%q): %q, want %q", x.s, got, x.trimmed)
		}
		if got := text.Words(x.s); !slices.Equal(got, x.words) {
			t.Errorf("Words(%q): %q, want %q", x.s, got, x.words)
		}
	}
}

func isBlank(c byte) bool { return c == ' ' || c == '\t' || c == '\n' }

// wordsOracle goes from byte to byte.
func wordsOracle(s string) []string {
	l := []string{}
	for i := range len(s) {
		switch {
		case isBlank(s[i]):
		case i == 0 || isBlank(s[i-1]):
			l = append(l, s[i:i+1])
		default:
			l[len(l)-1] += s[i : i+1]
		}
	}
	return l
}

// P2.4: Words and Trim of all short texts, and of each byte between letters.
func TestBlanksAll(t *testing.T) {
	l := allOf([]string{" ", "\t", "\n", "\r", "a", "\u20ac", "\xff"}, 5)
	for i := range 256 {
		c := string([]byte{byte(i)})
		l = append(l, c, "a"+c+"b", c+"a"+c)
	}
	for _, s := range l {
		if got, want := text.Words(s), wordsOracle(s); !slices.Equal(got, want) {
			t.Fatalf("Words(%q): %q, want %q", s, got, want)
		}
		want := s
		for want != "" && isBlank(want[0]) {
			want = want[1:]
		}
		for want != "" && isBlank(want[len(want)-1]) {
			want = want[:len(want)-1]
		}
		if got := text.Trim(s); got != want {
			t.Fatalf("Trim(%q): %q, want %q", s, got, want)
		}
	}
}

// P2.4: byte by byte; a beginning is ahead; Compare turned about is less Compare.
func TestCompare(t *testing.T) {
	rising := []string{"", "\x00", "\x00\x00", "\t", " ", "10", "9", "A", "B", "Z", "a", "a\x00", "aa", "ab", "b", "\x7f", "\x80", "\xc3", "\u00e9", "\u00e9a", "\xe2\x82", "\u20ac", "\uffff", "\U0001f600", "\xff", "\xff\x00"}
	for i, a := range rising {
		for j, b := range rising {
			want := 0
			if i < j {
				want = -1
			}
			if i > j {
				want = 1
			}
			if got := text.Compare(a, b); got != want {
				t.Errorf("Compare(%q, %q): %d, want %d", a, b, got, want)
			}
		}
	}
}

// P2.5: Sub of the first n, and of those behind, joined, is the text.
func TestParts(t *testing.T) {
	for _, s := range append(allOf(pieces(), 2), "a\u00e9\u20ac\U0001f600b\xe2\x82\xf0\x9f\x98", strings.Repeat("\u20ac\x82", 50)) {
		for n := -2; n <= len(s)+2; n++ {
			behind := max(n, 0) + 1
			for _, many := range []int{len(s), math.MaxInt} {
				first, rest := text.Sub(s, 1, n), text.Sub(s, behind, many)
				if first+rest != s || text.Len(first) != min(max(n, 0), text.Len(s)) {
					t.Fatalf("%q at %d: %q and %q", s, n, first, rest)
				}
			}
		}
	}
}

// P2.6: each part that begins and ends with characters is found, there or ahead; Sub there is it.
func TestFound(t *testing.T) {
	for _, s := range []string{"banana", "a\u00e9\u20ac\u00e9\u20ac\U0001f600", "\xe2\x82\u20ac\xe2\x82\xff", "  \n\x00"} {
		for from := 1; from <= text.Len(s); from++ {
			for many := 0; many <= text.Len(s); many++ {
				part := text.Sub(s, from, many)
				n := text.Index(s, part)
				if n < 1 || n > from || text.Sub(s, n, text.Len(part)) != part {
					t.Errorf("Index(%q, %q): %d", s, part, n)
				}
			}
		}
	}
}

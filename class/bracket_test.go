package class_test

import (
	"math"
	"regexp"
	"strings"
	"testing"

	"auklet/api"
	"auklet/class"
)

// named is the set of that class.
func named(name string) api.Set { return where(classes()[name]) }

// both is the set of the bytes of all.
func both(l ...api.Set) api.Set {
	var u api.Set
	for _, s := range l {
		for i := range u {
			u[i] |= s[i]
		}
	}
	return u
}

// P4.3: expressions that are whole, each alone, and with texts ahead and behind.
func TestParseTable(t *testing.T) {
	for _, x := range []struct {
		s    string
		want api.Set
	}{
		// Bytes.
		{"[a]", of("a")}, {"[abc]", of("abc")}, {"[cba]", of("abc")}, {"[aaa]", of("a")}, {"[ ]", of(" ")}, {"[\n\t]", of("\n\t")},
		{"[\x00]", of("\x00")}, {"[\xff\x80]", of("\xff\x80")}, {"[é]", of("\xc3\xa9")}, {"[.*+?(){}|$/]", of(".*+?(){}|$/")},
		// All others.
		{"[^a]", but(of("a"))}, {"[^a-c]", but(of("abc"))}, {"[^^]", but(of("^"))}, {"[^^^]", but(of("^"))}, {"[a^]", of("a^")}, {"[a^b]", of("a^b")}, {"[^a^]", but(of("a^"))},
		{"[\\^a]", of("^a")}, {"[^\x00-\xff]", api.Set{}}, {"[\x00-\xff]", span(0, 255)}, {"[^[:alpha:]]", but(named("alpha"))},
		// A ] that stands first.
		{"[]]", of("]")}, {"[^]]", but(of("]"))}, {"[]a]", of("]a")}, {"[^]a]", but(of("]a"))}, {"[]^]", of("]^")}, {"[]-]", of("]-")}, {"[^]-]", but(of("]-"))},
		{"[]-a]", span(93, 97)}, {"[^]-a]", but(span(93, 97))}, {"[]-\\]]", of("]")}, {"[][]", of("[]")}, {"[]-^]", of("]^")}, {"[][:digit:]]", both(of("]"), named("digit"))},
		{"[\\]]", of("]")}, {"[a\\]]", of("a]")}, {"[a\\]b]", of("a]b")}, {"[\\]-a]", span(93, 97)},
		// A - that stands first, or last, and one between.
		{"[-]", of("-")}, {"[^-]", but(of("-"))}, {"[--]", of("-")}, {"[---]", of("-")}, {"[----]", of("-")}, {"[-a]", of("-a")}, {"[a-]", of("a-")}, {"[^a-]", but(of("a-"))}, {"[-a-]", of("-a")},
		{"[--a]", span('-', 'a')}, {"[^--a]", but(span('-', 'a'))}, {"[+--]", span('+', '-')}, {"[+--a]", of("+,-a")}, {"[a-c-]", of("abc-")}, {"[-a-c]", of("-abc")},
		{"[a-c-e]", of("abc-e")}, {"[a-c-]", of("abc-")}, {"[0-9-+]", both(span('0', '9'), of("-+"))}, {"[0-9--a]", both(span('0', '9'), span('-', 'a'))},
		{"[a\\-z]", of("a-z")}, {"[a\\-]", of("a-")}, {"[\\-a]", of("-a")}, {"[\\--a]", span('-', 'a')}, {"[+-\\-]", span('+', '-')},
		// Ranges.
		{"[a-c]", of("abc")}, {"[a-a]", of("a")}, {"[a-cx-z]", of("abcxyz")}, {"[xa-cy]", of("abcxy")}, {"[a-cb-d]", of("abcd")}, {"[\x00-\x01\xfe-\xff]", of("\x00\x01\xfe\xff")},
		{"[!-/]", span('!', '/')}, {"[ -~]", named("print")}, {"[A-[]", span('A', '[')}, {"[[-^]", span('[', '^')}, {"[[-a]", span('[', 'a')}, {"[A-[a]", both(span('A', '['), of("a"))},
		{"[\\[-\\]]", of("[\\]")}, {"[+-^]", span('+', '^')}, {"[^+-^]", but(span('+', '^'))}, {"[^-a^]", but(of("-a^"))}, {"[\\^-a]", span('^', 'a')}, {"[\\t-\\n]", of("\t\n")}, {"[\\n-a]", span(10, 'a')}, {"[\t-\\n]", of("\t\n")},
		{"[A-\\]]", span('A', ']')}, {"[A-\\[:]", both(span('A', '['), of(":"))}, {"[A-\\\\]", span('A', '\\')}, {"[\\\\-a]", span('\\', 'a')},
		// \ and a byte.
		{"[\\n]", of("\n")}, {"[\\t]", of("\t")}, {"[\\n\\t]", of("\n\t")}, {"[\\\\]", of("\\")}, {"[\\\\n]", of("\\n")}, {"[\\\\\\n]", of("\\\n")}, {"[\\a]", of("a")}, {"[\\r\\f\\v\\b\\0\\d]", of("rfvb0d")},
		{"[\\N\\T]", of("NT")}, {"[\\/]", of("/")}, {"[\\\"]", of("\"")}, {"[\\\x00]", of("\x00")}, {"[\\\n]", of("\n")}, {"[\\\xff]", of("\xff")}, {"[\\[]", of("[")}, {"[\\[:alpha:]", of("[:alph")}, {"[^\\n]", but(of("\n"))}, {"[n\\t]", of("n\t")},
		// Classes.
		{"[[:alpha:]]", named("alpha")}, {"[[:digit:]]", named("digit")}, {"[[:alnum:]]", named("alnum")}, {"[[:upper:]]", named("upper")}, {"[[:lower:]]", named("lower")}, {"[[:space:]]", named("space")},
		{"[[:blank:]]", named("blank")}, {"[[:punct:]]", named("punct")}, {"[[:print:]]", named("print")}, {"[[:graph:]]", named("graph")}, {"[[:cntrl:]]", named("cntrl")}, {"[[:xdigit:]]", named("xdigit")},
		{"[[:digit:][:upper:]]", both(named("digit"), named("upper"))}, {"[a[:digit:]b]", both(of("ab"), named("digit"))}, {"[^[:digit:]x]", but(both(of("x"), named("digit")))}, {"[a-c[:digit:]x-z]", both(of("abcxyz"), named("digit"))},
		{"[[:digit:]-]", both(of("-"), named("digit"))}, {"[-[:digit:]]", both(of("-"), named("digit"))}, {"[a-[:digit:]]", both(of("a-"), named("digit"))}, {"[[:digit:]-z]", both(of("-z"), named("digit"))}, {"[--[:digit:]]", both(of("-"), named("digit"))},
		{"[a-[:digit:]-z]", both(of("a-z"), named("digit"))}, {"[[:digit:]--a]", both(named("digit"), span('-', 'a'))}, {"[z-[:digit:]]", both(of("z-"), named("digit"))},
		// What is no class.
		{"[[]", of("[")}, {"[:]", of(":")}, {"[::]", of(":")}, {"[:alpha:]", of(":alph")}, {"[[a:]", of("[a:")}, {"[[ :]", of("[ :")}, {"[[.a.]", of("[.a")}, {"[[=a=]", of("[=a")}, {"[a[]", of("a[")}, {"[[[:digit:]]", both(of("["), named("digit"))},
	} {
		check(t, "", x.s, "", x.want)
		for _, behind := range []string{"]", "a", "-z]", ":]", "[", "[b-a]", "[[:x:]]", "\\", "\xff"} {
			check(t, "", x.s, behind, x.want)
			check(t, "[", x.s, behind, x.want)
			check(t, "x[[:digit:]]\xff", x.s, behind, x.want)
		}
	}
}

// check holds Parse of an expression between two texts against the set that it is.
func check(t *testing.T, ahead, s, behind string, want api.Set) {
	t.Helper()
	set, end, e := class.Parse(ahead+s+behind, len(ahead))
	if set != want || end != len(ahead)+len(s) || e != api.OK {
		t.Errorf("Parse(%q, %d): %x, %d, %v, not %x, %d", ahead+s+behind, len(ahead), set, end, e, want, len(ahead)+len(s))
	}
}

// P4.3: each byte, by itself and behind \, at the edges and in ranges.
func TestParseEachByte(t *testing.T) {
	for c := range 256 {
		b := string([]byte{byte(c)})
		plain := span(c, c)
		behind := plain
		switch c {
		case 'n':
			behind = span(10, 10)
		case 't':
			behind = span(9, 9)
		}
		check(t, "", "[\\"+b+"]", "", behind)
		check(t, "", "[^\\"+b+"]", "", but(behind))
		check(t, "", "[x\\"+b+"y]", "]", both(of("xy"), behind))
		if c != '\\' && c != '^' {
			check(t, "", "["+b+"]", "", plain)
		}
		if c != '\\' {
			check(t, "", "[^"+b+"]", "", but(plain))
			check(t, "", "[\x00-\x00"+strings.ReplaceAll(b, "]", "")+"]", "", both(span(0, 0), of(strings.ReplaceAll(b, "]", ""))))
		}
		if c != '\\' && c != ']' {
			check(t, "", "[\x00-"+b+"]", "", span(0, c))
			check(t, "", "[x"+b+"]", "", both(of("x"), plain))
		}
		if c != '\\' && c != '^' {
			check(t, "", "["+b+"-\xff]", "", span(c, 255))
		}
	}
}

// P4.4: ErrArg, if at is none of the places, or no [ stands there.
func TestParseArg(t *testing.T) {
	for _, x := range []struct {
		s  string
		at int
	}{{"", 0}, {"", 1}, {"", -1}, {"a", 0}, {"[a]", 1}, {"[a]", 2}, {"[a]", 3}, {"[a]", 4}, {"[a]", -1}, {"[a]", -3}, {"[a]", math.MaxInt}, {"[a]", math.MinInt}, {"]", 0}, {"\\[a]", 0}, {" [a]", 0}, {"a[a]", 0}, {"^[a]", 0}, {"[[:alpha:]]", 2}, {"[", 1}, {"[", -1}, {"\x00", 0}, {"\xff", 0}} {
		if set, end, e := class.Parse(x.s, x.at); set != (api.Set{}) || end != 0 || e != api.ErrArg {
			t.Errorf("Parse(%q, %d): %x, %d, %v", x.s, x.at, set, end, e)
		}
	}
}

// P4.4: what can't be read; from the left, so that what is behind the first fault does not matter.
func TestParseFaults(t *testing.T) {
	for s, want := range map[string]api.Errno{
		"[": api.ErrShort, "[^": api.ErrShort, "[]": api.ErrShort, "[^]": api.ErrShort, "[a": api.ErrShort, "[^a": api.ErrShort, "[abc": api.ErrShort, "[]a": api.ErrShort, "[^]a": api.ErrShort, "[^^": api.ErrShort,
		"[a-": api.ErrShort, "[a-c": api.ErrShort, "[-": api.ErrShort, "[--": api.ErrShort, "[]-": api.ErrShort, "[]-a": api.ErrShort, "[[": api.ErrShort, "[A-[": api.ErrShort,
		"[\\": api.ErrShort, "[a\\": api.ErrShort, "[\\]": api.ErrShort, "[a\\]": api.ErrShort, "[a-\\": api.ErrShort, "[+-\\]": api.ErrShort, "[\\\\": api.ErrShort, "[\\n": api.ErrShort, "[\\\\\\]": api.ErrShort,
		"[[:": api.ErrShort, "[[:]": api.ErrShort, "[[:]]": api.ErrShort, "[[:alpha": api.ErrShort, "[[:alpha]": api.ErrShort, "[[:alpha]]": api.ErrShort, "[[:alpha:": api.ErrShort, "[[:alpha: ]]": api.ErrShort, "[[:alpha:]": api.ErrShort, "[[:nope": api.ErrShort, "[a[:alpha": api.ErrShort, "[a-[:alpha]": api.ErrShort, "[[:alpha:][:": api.ErrShort, "[[::": api.ErrShort,
		"[[:nope:]]": api.ErrClass, "[[:nope:]": api.ErrClass, "[[::]]": api.ErrClass, "[[::]": api.ErrClass, "[[:]:]]": api.ErrClass, "[[:Alpha:]]": api.ErrClass, "[[: alpha:]]": api.ErrClass, "[[:alpha :]]": api.ErrClass, "[[:^alpha:]]": api.ErrClass, "[[:alpha]x:]]": api.ErrClass, "[[:alpha] and more, then :]": api.ErrClass, "[[:alpha:x:]]": api.ErrClass, "[[:[:alpha:]]": api.ErrClass, "[[:\\alpha:]]": api.ErrClass,
		"[a[:nope:]]": api.ErrClass, "[^[:nope:]]": api.ErrClass, "[[:alpha:][:nope:]]": api.ErrClass, "[a-[:nope:]]": api.ErrClass, "[z-[:nope:]a]": api.ErrClass, "[][:nope:]]": api.ErrClass, "[[:AZaz:]]": api.ErrClass, "[[:alpha\\:]]": api.ErrClass, "[[:\xff:]]": api.ErrClass, "[[:alpha::]]": api.ErrClass, "[[::alpha:]]": api.ErrClass,
		"[b-a]": api.ErrForm, "[^b-a]": api.ErrForm, "[z-a]": api.ErrForm, "[xb-a]": api.ErrForm, "[a-cz-y]": api.ErrForm, "[\xff-\x00]": api.ErrForm, "[\x01-\x00]": api.ErrForm, "[a--]": api.ErrForm, "[]-[]": api.ErrForm, "[]-A]": api.ErrForm, "[^]-A]": api.ErrForm, "[a-\\]]": api.ErrForm, "[a-\\n]": api.ErrForm, "[\\n-\\t]": api.ErrForm, "[a-[]": api.ErrForm, "[a-[b]": api.ErrForm, "[a-\\[:]": api.ErrForm, "[a-^]": api.ErrForm, "[--+]": api.ErrForm, "[a-\\-]": api.ErrForm, "[n-\\n]": api.ErrForm, "[a-A]": api.ErrForm,
		// What stands farther left is told.
		"[b-a": api.ErrForm, "[a-[": api.ErrForm, "[b-a[:nope:]]": api.ErrForm, "[b-a\\": api.ErrForm, "[b-a[:": api.ErrForm, "[[:nope:]b-a]": api.ErrClass, "[[:nope:]b-a": api.ErrClass, "[[:nope:]\\": api.ErrClass, "[[:nope:][:": api.ErrClass, "[[:b-a]": api.ErrShort, "[b-a[:alpha:]]": api.ErrForm, "[[:alpha:]b-a": api.ErrForm, "[\\]b-a": api.ErrForm,
	} {
		for _, ahead := range []string{"", "[", "a]", "[a]", "\xff"} {
			if set, end, e := class.Parse(ahead+s, len(ahead)); set != (api.Set{}) || end != 0 || e != want {
				t.Errorf("Parse(%q, %d): %x, %d, %v, not %v", ahead+s, len(ahead), set, end, e, want)
			}
		}
	}
}

// word is a word of a bracket expression: a class, a byte behind \, a byte; or what is left of one of the first two, where the text ends.
var word = regexp.MustCompile(`(?s)^(?:\[:(.*?):\]|\\(.)|(\[:|\\$)|(.))`)

// part is a word that was read: what it is, and the byte, the set or the error that it comes to.
type part struct {
	kind byte // c: a class; e: a byte behind \; b: a byte; !: a fault
	c    byte
	set  api.Set
	e    api.Errno
	end  int
}

// parts are the words of s from the place at on, up to a fault, or to the end of s.
func parts(s string, at int) []part {
	var l []part
	for {
		m := word.FindStringSubmatchIndex(s[at:])
		group := func(i int) string { return s[at+m[2*i] : at+m[2*i+1]] }
		switch {
		case m == nil || m[6] >= 0:
			return append(l, part{kind: '!', e: api.ErrShort})
		case m[2] >= 0 && classes()[group(1)] == nil:
			return append(l, part{kind: '!', e: api.ErrClass})
		case m[2] >= 0:
			l = append(l, part{kind: 'c', set: named(group(1)), end: at + m[1]})
		case m[4] >= 0:
			c := strings.NewReplacer("n", "\n", "t", "\t").Replace(group(2))
			l = append(l, part{kind: 'e', c: c[0], end: at + m[1]})
		default:
			l = append(l, part{kind: 'b', c: s[at], end: at + m[1]})
		}
		at += m[1]
	}
}

// read is what P4.3 and P4.4 say of s, which begins with [, in another way than the package: by words first.
func read(s string) (api.Set, int, api.Errno) {
	at := 1
	if strings.HasPrefix(s, "[^") {
		at = 2
	}
	l := parts(s, at)
	is := func(i int, c byte) bool { return i < len(l) && l[i].kind == 'b' && l[i].c == c }
	var u api.Set
	for i := 0; ; {
		x := l[i]
		switch {
		case i > 0 && is(i, ']'):
			if at == 2 {
				u = but(u)
			}
			return u, x.end, api.OK
		case x.kind == '!':
			return api.Set{}, 0, x.e
		case x.kind == 'c':
			u = both(u, x.set)
			i++
		case is(i+1, '-') && l[i+2].kind == '!' && l[i+2].e == api.ErrShort:
			return api.Set{}, 0, api.ErrShort
		case is(i+1, '-') && !is(i+2, ']') && (l[i+2].kind == 'b' || l[i+2].kind == 'e'):
			if l[i+2].c < x.c {
				return api.Set{}, 0, api.ErrForm
			}
			u = both(u, span(int(x.c), int(l[i+2].c)))
			i += 3
		default:
			u = both(u, span(int(x.c), int(x.c)))
			i++
		}
	}
}

// P4.3, P4.4: Parse of all short texts, against a second reading.
func TestParseAllShort(t *testing.T) {
	pieces := []string{"[", "]", "^", "-", "\\", ":", "a", "n", "+", "[:blank:]"}
	l := []string{""}
	for begin, most := 0, 5; most > 0; most-- {
		end := len(l)
		for _, s := range l[begin:end] {
			for _, p := range pieces {
				l = append(l, s+p)
			}
		}
		begin = end
	}
	told := map[api.Errno]int{}
	for _, s := range l {
		s = "[" + s
		want, last, fault := read(s)
		set, end, e := class.Parse(s, 0)
		if set != want || end != last || e != fault {
			t.Fatalf("Parse(%q, 0): %x, %d, %v, not %x, %d, %v", s, set, end, e, want, last, fault)
		}
		told[e]++
	}
	for _, e := range []api.Errno{api.OK, api.ErrShort, api.ErrClass, api.ErrForm} {
		if told[e] == 0 {
			t.Errorf("no text that answers %v", e)
		}
	}
}

// P4.4: long expressions, and ones that never end.
func TestParseLong(t *testing.T) {
	for _, n := range []int{1000, 200000} {
		for _, p := range []string{"a", "a-c", "[:digit:]", "\\]", "-", "[", "^", "\\\\"} {
			s := strings.Repeat(p, n)
			if set, end, e := class.Parse("[!"+s+"]", 0); set == (api.Set{}) || end != len(s)+3 || e != api.OK {
				t.Errorf("%d times %q: %d, %v", n, p, end, e)
			}
			if set, end, e := class.Parse("[!"+s, 0); set != (api.Set{}) || end != 0 || e != api.ErrShort {
				t.Errorf("%d times %q: %x, %d, %v", n, p, set, end, e)
			}
		}
	}
}

// P4.5: what Show writes.
func TestShowTable(t *testing.T) {
	all := ""
	for c := range 256 {
		if strings.Contains(`^-][\`, string(rune(c))) {
			all += "\\"
		}
		all += string([]byte{byte(c)})
	}
	for _, x := range []struct {
		s    api.Set
		want string
	}{
		{of("a"), "[a]"}, {of("cba"), "[abc]"}, {of("zA0"), "[0Az]"}, {of("^"), `[\^]`}, {of("-"), `[\-]`}, {of("]"), `[\]]`}, {of("["), `[\[]`}, {of("\\"), `[\\]`},
		{of("^-][\\"), `[\-\[\\\]\^]`}, {of("a-^c"), `[\-\^ac]`}, {of(":["), `[:\[]`}, {of("nt"), "[nt]"}, {of("\n\t"), "[\t\n]"}, {of("\x00\xff\x80"), "[\x00\x80\xff]"}, {of(" "), "[ ]"}, {of("\"/"), "[\"/]"},
		{named("digit"), "[0123456789]"}, {span('W', 'c'), `[WXYZ\[\\\]\^_` + "`abc]"}, {named("space"), "[\t\n\v\f\r ]"}, {of(".*+?(){}|$"), "[$()*+.?{|}]"},
		{api.Set{}, "[^" + all + "]"}, {span(0, 255), "[" + all + "]"},
		{but(of("\x00")), "[" + all[1:] + "]"}, {but(of("\xff")), "[" + all[:len(all)-1] + "]"}, {but(of("^")), "[" + strings.Replace(all, `\^`, "", 1) + "]"}, {but(of("]")), "[" + strings.Replace(all, `\]`, "", 1) + "]"},
	} {
		if got := class.Show(x.s); got != x.want {
			t.Errorf("Show(%x): %q, not %q", x.s, got, x.want)
		}
	}
}

// P4.7: Parse of Show is the set, and all of the text; also between other texts.
func TestThereAndBack(t *testing.T) {
	for _, s := range sets() {
		shown := class.Show(s)
		check(t, "", shown, "", s)
		check(t, "[x]", shown, "]-\\", s)
	}
}

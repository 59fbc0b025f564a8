package subst_test

import (
	"slices"
	"strings"
	"testing"
	"time"

	"auklet/api"
	"auklet/match"
	"auklet/subst"
)

// made is the pattern of a text that is one.
func made(t testing.TB, s string) *match.Pattern {
	t.Helper()
	p, place, e := match.New(s)
	if p == nil || place != 0 || e != api.OK {
		t.Fatalf("New(%q): %v, %d, %v", s, p, place, e)
	}
	return p
}

// P8.1: the part in the place of each &, and what a \ does.
func TestPutTable(t *testing.T) {
	for _, x := range []struct{ by, part, want string }{
		{"", "ab", ""}, {"x", "ab", "x"}, {"&", "ab", "ab"}, {"&", "", ""}, {"&&", "ab", "abab"}, {"<&>", "ab", "<ab>"}, {"&x&", "ab", "abxab"}, {"x&&y", "", "xy"}, {"é&\xff", "\xc3", "é\xc3\xff"}, {"\x00&", "\n", "\x00\n"},
		// A \ ahead of & or \.
		{`\&`, "ab", "&"}, {`\\`, "ab", `\`}, {`\&\&`, "ab", "&&"}, {`\\\\`, "ab", `\\`}, {`\\&`, "ab", `\ab`}, {`\\\&`, "ab", `\&`}, {`\\\\&`, "ab", `\\ab`}, {`\\\\\&`, "ab", `\\&`}, {`&\&&`, "ab", "ab&ab"}, {`x\&y&z`, "ab", "x&yabz"}, {`\&&`, "", "&"}, {`&\\`, "ab", `ab\`},
		// Other \ stay as they are.
		{`\`, "ab", `\`}, {`a\`, "ab", `a\`}, {`&\`, "ab", `ab\`}, {`\a`, "ab", `\a`}, {`\n\t`, "ab", `\n\t`}, {`\a&`, "ab", `\aab`}, {`\\\`, "ab", `\\`}, {`\x\&`, "ab", `\x&`}, {`\0\1`, "ab", `\0\1`}, {`\é&`, "ab", `\éab`},
		// The part is put as it is.
		{"&", "&", "&"}, {"&&", "&", "&&"}, {"&", `\`, `\`}, {"&&", `\`, `\\`}, {"&", `\&`, `\&`}, {"&", `\\`, `\\`}, {`\&&`, "&", "&&"}, {`&\&`, `\`, `\&`}, {"<&>", `a&b\`, `<a&b\>`},
	} {
		if s := subst.Put(x.by, x.part); s != x.want {
			t.Errorf("Put(%q, %q): %q, not %q", x.by, x.part, s, x.want)
		}
	}
}

// P8.1: the first part replaced, and all.
func TestReplaceTable(t *testing.T) {
	for _, x := range []struct {
		re, by, s  string
		first, all string
		many       int
	}{
		{"a", "<&>", "banana", "b<a>nana", "b<a>n<a>n<a>", 3},
		{"a", "x", "a", "x", "x", 1}, {"a", "", "a", "", "", 1}, {"a", "", "banana", "bnana", "bnn", 3}, {"a", "xyz", "aa", "xyza", "xyzxyz", 2}, {"na", "-", "banana", "ba-na", "ba--", 2}, {"a+", "x", "aabaab", "xbaab", "xbxb", 2}, {"aa", "x", "aaaaa", "xaaa", "xxa", 2}, {"a|ab", "<&>", "abab", "<ab>ab", "<ab><ab>", 2}, {"b|aaa", "&&", "caaab", "caaaaaab", "caaaaaabb", 2},
		// None.
		{"x", "y", "banana", "banana", "banana", 0}, {"x", "y", "", "", "", 0}, {"a", `\&`, `\&`, `\&`, `\&`, 0}, {"^b", "y", "ab", "ab", "ab", 0}, {"aaa", "y", "aa", "aa", "aa", 0},
		// Replaced, though nothing is changed by it.
		{"a", "a", "ba", "ba", "ba", 1}, {"a", "&", "aa", "aa", "aa", 2}, {"", "", "ab", "ab", "ab", 3}, {"x*", "", "b", "b", "b", 2},
		// Empty parts: at each place, but not where the last one ended.
		{"", "-", "", "-", "-", 1}, {"", "-", "ab", "-ab", "-a-b-", 3}, {"a*", "-", "baa", "-baa", "-b-", 2}, {"a*", "-", "abba", "-bba", "-b-b-", 3}, {"a*", "<&>", "baab", "<>baab", "<>b<aa>b<>", 3}, {"x*", "-", "abc", "-abc", "-a-b-c-", 4}, {"b|", "-", "abb", "-abb", "-a--", 3}, {"", "-", "é", "-é", "-\xc3-\xa9-", 3}, {"()", "&", "ab", "ab", "ab", 3},
		// The beginning and the end, but once.
		{"^", ">", "aa", ">aa", ">aa", 1}, {"$", "<", "aa", "aa<", "aa<", 1}, {"^", ">", "", ">", ">", 1}, {"^a", "x", "aaa", "xaa", "xaa", 1}, {"a$", "x", "aaa", "aax", "aax", 1}, {"^|$", "|", "ab", "|ab", "|ab|", 2}, {"^a|b", "x", "aab", "xab", "xax", 2}, {"a*$", "x", "aab", "aabx", "aabx", 1}, {"^$", "x", "", "x", "x", 1}, {"^$", "x", "a", "a", "a", 0},
		// What is put is not looked at again.
		{"a", "aa", "aa", "aaa", "aaaa", 2}, {"ab", "b", "aab", "ab", "ab", 1}, {"a", "&a", "ba", "baa", "baa", 1},
		// & and \ in what is put, and in what is found.
		{"a", `\&`, "aba", "&ba", "&b&", 2}, {"a", `\\&`, "aba", `\aba`, `\ab\a`, 2}, {"a", `\\`, "aba", `\ba`, `\b\`, 2}, {"a", `\`, "aba", `\ba`, `\b\`, 2}, {"a", `\x`, "a", `\x`, `\x`, 1}, {"a", `\\\&`, "a", `\&`, `\&`, 1}, {"a", `&\&&`, "ca", "ca&a", "ca&a", 1}, {".", "<&>", `&\`, `<&>\`, `<&><\>`, 2}, {`\\&`, "&&", `a\&b`, `a\&\&b`, `a\&\&b`, 1}, {`\\`, "&", `\\`, `\\`, `\\`, 2}, {"b", "-", `a&b\&`, `a&-\&`, `a&-\&`, 1},
		// Bytes, whatever they are.
		{".", "x", "é", "x\xa9", "xx", 2}, {"\xa9", "x", "é", "\xc3x", "\xc3x", 1}, {"\x00", "&\x00", "a\x00", "a\x00\x00", "a\x00\x00", 1}, {"\n", ", ", "a\nb\n", "a, b\n", "a, b, ", 2}, {"[^ -~]+", "?", "a\xff\xfeb\x80", "a?b\x80", "a?b?", 2},
	} {
		p := made(t, x.re)
		if s, n := subst.Sub(p, x.by, x.s); s != x.first || n != min(x.many, 1) {
			t.Errorf("Sub(%q, %q, %q): %q, %d, not %q", x.re, x.by, x.s, s, n, x.first)
		}
		if s, n := subst.All(p, x.by, x.s); s != x.all || n != x.many {
			t.Errorf("All(%q, %q, %q): %q, %d, not %q, %d", x.re, x.by, x.s, s, n, x.all, x.many)
		}
	}
}

// P8.1, P8.2: a pattern that is nil is one that is never found.
func TestNoPattern(t *testing.T) {
	for _, s := range []string{"", "a", "a&b", `\&`, "é", " ", "\xff\x00"} {
		for _, by := range []string{"", "x", "&", `\&`} {
			if got, n := subst.Sub(nil, by, s); got != s || n != 0 {
				t.Errorf("Sub(nil, %q, %q): %q, %d", by, s, got, n)
			}
			if got, n := subst.All(nil, by, s); got != s || n != 0 {
				t.Errorf("All(nil, %q, %q): %q, %d", by, s, got, n)
			}
		}
		want := []string{s}
		if s == "" {
			want = nil
		}
		if l := subst.Split(nil, s); !slices.Equal(l, want) {
			t.Errorf("Split(nil, %q): %q", s, l)
		}
	}
}

// P8.2: the parts between those that are found and not empty.
func TestSplitTable(t *testing.T) {
	type l = []string
	for _, x := range []struct {
		re, s string
		want  l
	}{
		{":", "a:b", l{"a", "b"}}, {":", "a:b::c", l{"a", "b", "", "c"}}, {":", ":", l{"", ""}}, {":", "::", l{"", "", ""}}, {":", ":a:", l{"", "a", ""}}, {":", "ab", l{"ab"}}, {":+", "a::b:c", l{"a", "b", "c"}}, {", *", "a,b,  c", l{"a", "b", "c"}}, {"ab|b", "xabybz", l{"x", "y", "z"}}, {"a|ab", "xabx", l{"x", "x"}}, {"aa", "baaab", l{"b", "ab"}}, {".", "ab", l{"", "", ""}}, {".*", "a\nb", l{"", ""}}, {" ", " a  b ", l{"", "a", "", "b", ""}},
		// Nothing of the empty text, whatever is found in it.
		{":", "", nil}, {"", "", nil}, {"a*", "", nil}, {"^", "", nil}, {"$", "", nil}, {"^$", "", nil},
		// What is empty parts nothing.
		{"", "ab", l{"ab"}}, {"()", "a", l{"a"}}, {"x*", "abc", l{"abc"}}, {"x*", "axbxxc", l{"a", "b", "c"}}, {"a*", "baa", l{"b", ""}}, {"a*", "aab", l{"", "b"}}, {"b|", "abba", l{"a", "", "a"}}, {"^", "ab", l{"ab"}}, {"$", "ab", l{"ab"}}, {"^|$|b", "abc", l{"a", "c"}}, {"^$", "ab", l{"ab"}},
		// The beginning and the end are those of the text.
		{"^a", "aab", l{"", "ab"}}, {"a$", "baa", l{"ba", ""}}, {"^b", "ab", l{"ab"}}, {"^a|b", "aabc", l{"", "a", "c"}},
		// Bytes, whatever they are.
		{".", "é", l{"", "", ""}}, {"\xa9", "aéb", l{"a\xc3", "b"}}, {"é", "aéb", l{"a", "b"}}, {"\x00", "a\x00\xff", l{"a", "\xff"}}, {`\|`, "a|b", l{"a", "b"}}, {`\\`, `a\b`, l{"a", "b"}}, {`[&\\]`, `a&b\c`, l{"a", "b", "c"}},
	} {
		if got := subst.Split(made(t, x.re), x.s); !slices.Equal(got, x.want) {
			t.Errorf("Split(%q, %q): %q, not %q", x.re, x.s, got, x.want)
		}
	}
}

// P8.3: by each kind of separator.
func TestAtTable(t *testing.T) {
	type l = []string
	for _, x := range []struct {
		s, sep string
		want   l
	}{
		{"a:b::c", ":", l{"a", "b", "", "c"}},
		// A blank: words.
		{"a b", " ", l{"a", "b"}}, {"  a \t b\n\nc ", " ", l{"a", "b", "c"}}, {" \t\n", " ", nil}, {"", " ", nil}, {"a", " ", l{"a"}}, {"a\rb\vc\u00a0d", " ", l{"a\rb\vc\u00a0d"}},
		// One other byte: just that, and no pattern.
		{"a", ":", l{"a"}}, {":", ":", l{"", ""}}, {":a:", ":", l{"", "a", ""}}, {"a:b", ";", l{"a:b"}}, {"", ":", nil}, {"a\tb  c\t", "\t", l{"a", "b  c", ""}}, {"a\nb\n\nc", "\n", l{"a", "b", "", "c"}}, {"a.b", ".", l{"a", "b"}}, {"ab", ".", l{"ab"}}, {"a*b", "*", l{"a", "b"}}, {"a+b", "+", l{"a", "b"}}, {"a?b", "?", l{"a", "b"}}, {"a|b", "|", l{"a", "b"}}, {"a(b", "(", l{"a", "b"}}, {"a)b", ")", l{"a", "b"}}, {"a[b", "[", l{"a", "b"}}, {"a]b", "]", l{"a", "b"}}, {"a{b", "{", l{"a", "b"}}, {"a^b", "^", l{"a", "b"}}, {"ab", "^", l{"ab"}}, {"a$b$", "$", l{"a", "b", ""}}, {"ab", "$", l{"ab"}}, {"a&b", "&", l{"a", "b"}}, {"baab", "a", l{"b", "", "b"}}, {"", "*", nil}, {"", "(", nil}, {"a\x00b", "\x00", l{"a", "b"}}, {"a\xffb", "\xff", l{"a", "b"}}, {"aéb", "\xa9", l{"a\xc3", "b"}}, {"aéb", "\xc3", l{"a", "\xa9b"}}, {"\ufffd", "\xff", l{"\ufffd"}}, {"a\x80b", "\x80", l{"a", "b"}},
		// None: characters.
		{"abc", "", l{"a", "b", "c"}}, {"aé\xff\u20ac", "", l{"a", "é", "\xff", "\u20ac"}}, {" \n", "", l{" ", "\n"}}, {"", "", nil},
		// Others: patterns.
		{"a, b,c", ", *", l{"a", "b", "c"}}, {"a::b:c", "::", l{"a", "b:c"}}, {"a1b22c", "[0-9]+", l{"a", "b", "c"}}, {"a  b c", "  ", l{"a", "b c"}}, {" a b ", "[ ]", l{"", "a", "b", ""}}, {"aéb", "é", l{"a", "b"}}, {"a\xc3b", "é", l{"a\xc3b"}}, {"abc", "x*", l{"abc"}}, {"abc", "()", l{"abc"}}, {"aab", "^a", l{"", "ab"}}, {`a\b\\c`, `\\`, l{"a", "b", "", "c"}}, {"a.b", `\.`, l{"a", "b"}}, {"a|b", "[|]", l{"a", "b"}}, {"", "ab", nil}, {"", "a*", nil}, {"", "^$", nil}, {"", "()", nil}, {"a", "^$", l{"a"}}, {"xaay", "a*", l{"x", "y"}},
	} {
		if got, place, e := subst.At(x.s, x.sep); !slices.Equal(got, x.want) || place != 0 || e != api.OK {
			t.Errorf("At(%q, %q): %q, %d, %v, not %q", x.s, x.sep, got, place, e, x.want)
		}
	}
}

// P8.3: separators that are no patterns, also of the empty text.
func TestAtWrong(t *testing.T) {
	for _, x := range []struct {
		sep   string
		place int
		e     api.Errno
	}{
		{`\`, 1, api.ErrShort}, {`ab\`, 3, api.ErrShort}, {"a(", 2, api.ErrShort}, {"ab)", 2, api.ErrForm}, {"**", 0, api.ErrRepeat}, {"a|*", 2, api.ErrRepeat}, {"ab[", 2, api.ErrShort}, {"[b-a]", 0, api.ErrForm}, {"x[[:none:]]", 1, api.ErrClass}, {"a{51}", 1, api.ErrRepeat}, {strings.Repeat("a", 401), 0, api.ErrLong}, {"(a{50}){10}", 0, api.ErrLong},
	} {
		_, place, e := match.New(x.sep)
		if place != x.place || e != x.e {
			t.Errorf("the table tells of %q %d, %v, match.New %d, %v", x.sep, x.place, x.e, place, e)
		}
		for _, s := range []string{"", "a", "a(b", `a\b`, " "} {
			if l, place, e := subst.At(s, x.sep); len(l) != 0 || place != x.place || e != x.e {
				t.Errorf("At(%q, %q): %q, %d, %v, not %d, %v", s, x.sep, l, place, e, x.place, x.e)
			}
		}
	}
}

// P8.3: texts joined.
func TestJoin(t *testing.T) {
	for _, x := range []struct {
		l         []string
		sep, want string
	}{
		{nil, "", ""}, {nil, "-", ""}, {[]string{}, "-", ""}, {[]string{""}, "-", ""}, {[]string{"a"}, "-", "a"}, {[]string{"a", "b"}, "-", "a-b"}, {[]string{"a", "b", "c"}, "", "abc"}, {[]string{"", ""}, "-", "-"}, {[]string{"", "a", ""}, ", ", ", a, "}, {[]string{"a", "", "b"}, "--", "a----b"}, {[]string{"a", "b"}, "&", "a&b"}, {[]string{"a", "b"}, `\&`, `a\&b`}, {[]string{"\xc3", "\xa9"}, "", "é"}, {[]string{"a", "b"}, "\x00\xff", "a\x00\xffb"},
	} {
		if s := subst.Join(x.l, x.sep); s != x.want {
			t.Errorf("Join(%q, %q): %q, not %q", x.l, x.sep, s, x.want)
		}
	}
}

// P8.2, P8.3: an answer is new memory, and what is handed in stays as it was, its spare room included.
func TestMemory(t *testing.T) {
	p := made(t, "[:,]+")
	const s = "a:b,c::d e f\tg,h"
	for name, f := range map[string]func() []string{
		"Split": func() []string { return subst.Split(p, s) }, "Split by none": func() []string { return subst.Split(nil, s) },
		"words": func() []string { l, _, _ := subst.At(s, " "); return l }, "bytes": func() []string { l, _, _ := subst.At(s, ":"); return l }, "characters": func() []string { l, _, _ := subst.At(s, ""); return l }, "pattern": func() []string { l, _, _ := subst.At(s, "[:,]+"); return l },
	} {
		a, b := f(), f()
		want := slices.Clone(b)
		a = a[:cap(a)]
		for i := range a {
			a[i] = "x"
		}
		if !slices.Equal(b, want) || !slices.Equal(f(), want) {
			t.Error(name, "shares its answers:", b, f())
		}
	}
	room := []string{"a", "b", "c", "d"}
	if got := subst.Join(room[:2], "-"); got != "a-b" || !slices.Equal(room, []string{"a", "b", "c", "d"}) {
		t.Error("Join changes what is handed in:", got, room)
	}
}

// P8.1: one call says nothing to later ones.
func TestNothingKept(t *testing.T) {
	p, q := made(t, "a+"), made(t, "b")
	for range 3 {
		if s, n := subst.All(p, "<&>", "aab"); s != "<aa>b" || n != 1 {
			t.Error(s, n)
		}
		if s, n := subst.All(q, `\&&`, "aab"); s != "aa&b" || n != 1 {
			t.Error(s, n)
		}
		if s, n := subst.Sub(p, "", "xaya"); s != "xya" || n != 1 {
			t.Error(s, n)
		}
		if s := subst.Put("&&", "x"); s != "xx" {
			t.Error(s)
		}
	}
}

// P8.1, P8.2, P8.3: long texts.
func TestToAnEnd(t *testing.T) {
	began := time.Now()
	const many = 1 << 18
	long := strings.Repeat("a,", many)
	comma := made(t, ",")
	if s, n := subst.All(comma, `<&\&>`, long); n != many || s != strings.Repeat("a<,&>", many) {
		t.Error("All", n, len(s))
	}
	if s, n := subst.Sub(made(t, ",$"), "&.", long); n != 1 || s != long+"." {
		t.Error("Sub", n, len(s))
	}
	if s, n := subst.All(made(t, ""), "-", long[:1000]); n != 1001 || len(s) != 2001 {
		t.Error("All of empty ones", n, len(s))
	}
	for _, sep := range []string{",", "[,]"} {
		l, place, e := subst.At(long, sep)
		if len(l) != many+1 || l[0] != "a" || l[many] != "" || place != 0 || e != api.OK {
			t.Error("At", sep, len(l), place, e)
		}
		if subst.Join(l, ",") != long {
			t.Error("Join", sep)
		}
	}
	if l := subst.Split(comma, long); len(l) != many+1 || l[many-1] != "a" {
		t.Error("Split", len(l))
	}
	if s := subst.Put(strings.Repeat(`&\&\\\x`, many), "ab"); s != strings.Repeat(`ab&\\x`, many) {
		t.Error("Put", len(s))
	}
	if d := time.Since(began); d > 20*time.Second {
		t.Error("too slow:", d)
	}
}

// No call with a pattern that was never made panics.
func TestZero(t *testing.T) {
	p := &match.Pattern{}
	subst.Sub(p, "&", "a")
	subst.All(p, "&", "a")
	subst.Split(p, "a")
	subst.Split(p, "")
}

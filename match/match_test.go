package match_test

import (
	"math"
	"slices"
	"strings"
	"testing"
	"time"

	"auklet/api"
	"auklet/ere"
	"auklet/match"
	"auklet/nfa"
	"auklet/samples"
)

// made is the pattern of a text that is one.
func made(t testing.TB, s string) *match.Pattern {
	t.Helper()
	p, place, e := match.New(s)
	if p == nil || place != 0 || e != api.OK {
		t.Fatalf("New(%q): %v, %d, %v", s, p, place, e)
	}
	return p
}

// P7.1: a pattern, and its text as it was written.
func TestNew(t *testing.T) {
	for _, s := range []string{
		"", "a", "a*", "a|ab", "|", "()", "(a)(b)", "^$", "[^a-c]x", "[]a]", "[[:alpha:]]+", `\.\*`, "a{2,3}", "a{0}", "a{50}", ".", "é", "\xff\x00", " ", "\n", "((((((((((((((((((((a))))))))))))))))))))",
		strings.Repeat("a", 400), strings.Repeat("|", 400), "(a{50}){9}a{49}",
	} {
		if p := made(t, s); p.Text() != s {
			t.Errorf("Text of %q: %q", s, p.Text())
		}
	}
}

// P7.1: what can't be read is told with its place; what has too many states, without one.
func TestNewWrong(t *testing.T) {
	for _, x := range []struct {
		s     string
		place int
		e     api.Errno
	}{
		{"a(b", 3, api.ErrShort}, {"(", 1, api.ErrShort}, {"ab)", 2, api.ErrForm}, {")", 0, api.ErrForm}, {"*", 0, api.ErrRepeat}, {"a|*", 2, api.ErrRepeat}, {"ab[", 2, api.ErrShort}, {"[b-a]", 0, api.ErrForm}, {"x[[:none:]]", 1, api.ErrClass}, {`ab\`, 3, api.ErrShort}, {"a{51}", 1, api.ErrRepeat}, {"a{2,1}", 1, api.ErrRepeat},
		{strings.Repeat("a", 401), 0, api.ErrLong}, {strings.Repeat("(", 21) + strings.Repeat(")", 21), 20, api.ErrLong},
		// Read well, but too great: nfa.Build tells no place.
		{"(a{50}){10}", 0, api.ErrLong}, {"b(a{50}){9}a{49}", 0, api.ErrLong}, {"((a{50}){50}){0}", 0, api.ErrLong}, {"xyz(((a+)+)+)+(((a+)+)+)+(((((((a+)+)+)+)+)+)+)+", 0, api.ErrLong},
		// What can't be read comes ahead of what is too great.
		{"(a{50}){10}(", 12, api.ErrShort}, {"(a{50}){10}*)", 12, api.ErrForm},
	} {
		_, place, e := ere.Parse(x.s)
		if e != api.OK && (place != x.place || e != x.e) {
			t.Errorf("the table tells of %q %d, %v, ere.Parse %d, %v", x.s, x.place, x.e, place, e)
		}
		if p, place, e := match.New(x.s); p != nil || place != x.place || e != x.e {
			t.Errorf("New(%q): %v, %d, %v, not %d, %v", x.s, p, place, e, x.place, x.e)
		}
	}
}

// P7.1: of all short texts New tells what ere.Parse and nfa.Build tell.
func TestNewOfAll(t *testing.T) {
	for _, s := range slices.Concat(samples.Joined(5, "a", "(", ")", "|", "*", "[", "]", "{2}", `\`), samples.Joined(3, "(a{50}){9}", "a{49}", "a", "*", "(", "|")) {
		tree, place, e := ere.Parse(s)
		if e == api.OK {
			_, e = nfa.Build(tree)
		}
		p, at, told := match.New(s)
		if told != e || at != place || (p == nil) != (e != api.OK) || p != nil && p.Text() != s {
			t.Fatalf("New(%q): %v, %d, %v, not %d, %v", s, p, at, told, place, e)
		}
	}
}

// P7.2: the first place, from there the greatest one, and where none is.
func TestFindTable(t *testing.T) {
	type found struct {
		begin, end int
		ok         bool
	}
	no := found{}
	at := func(begin, end int) found { return found{begin, end, true} }
	for _, x := range []struct {
		re, s string
		at    int
		want  found
	}{
		{"a", "a", 0, at(0, 1)}, {"a", "ba", 0, at(1, 2)}, {"a", "bab", 1, at(1, 2)}, {"a", "bab", 2, no}, {"a", "bab", 3, no}, {"a", "b", 0, no}, {"a", "", 0, no}, {"a", "aaa", 2, at(2, 3)}, {"na", "banana", 0, at(2, 4)}, {"na", "banana", 3, at(4, 6)}, {"na", "banana", 5, no},
		// The first one, however short; from there the longest one, whichever branch is of it.
		{"b|aaa", "caaab", 0, at(1, 4)}, {"aa|b", "baa", 0, at(0, 1)}, {"a|ab", "xab", 0, at(1, 3)}, {"ab|a", "xab", 0, at(1, 3)}, {"a|ab|abc|abcd", "xabcx", 0, at(1, 4)}, {"(a|ab)(c|bcd)", "abcd", 0, at(0, 4)}, {"a+|b+", "cbbbaaaa", 0, at(1, 4)}, {"aab|b", "aaab", 0, at(1, 4)}, {"aaaab|b", "aaab", 0, at(3, 4)}, {"a.*", "bab\nc", 0, at(1, 5)}, {"a.*b", "abab", 0, at(0, 4)}, {"a[^b]*b", "abab", 0, at(0, 2)}, {"(aa|aaa)+", "aaaaaaa", 0, at(0, 7)}, {"(aaa)+", "aaaaaaa", 0, at(0, 6)}, {"a{2,3}", "aaaa", 0, at(0, 3)}, {"a{2,3}", "baaaa", 2, at(2, 5)}, {"a{2}", "ababaa", 0, at(4, 6)},
		// Empty parts.
		{"", "", 0, at(0, 0)}, {"", "ab", 0, at(0, 0)}, {"", "ab", 1, at(1, 1)}, {"", "ab", 2, at(2, 2)}, {"a*", "baa", 0, at(0, 0)}, {"a*", "baa", 1, at(1, 3)}, {"a*", "baa", 2, at(2, 3)}, {"a*", "baa", 3, at(3, 3)}, {"()", "ab", 1, at(1, 1)}, {"x?", "", 0, at(0, 0)}, {"a{0}", "aa", 1, at(1, 1)},
		// The beginning is at 0 and not at at; the end is that of the text.
		{"^", "ab", 0, at(0, 0)}, {"^", "ab", 1, no}, {"^", "", 0, at(0, 0)}, {"^a", "aa", 0, at(0, 1)}, {"^a", "aa", 1, no}, {"^b", "ab", 0, no}, {"^b", "ab", 1, no}, {"^b", "a\nb", 0, no}, {"$", "ab", 0, at(2, 2)}, {"$", "ab", 2, at(2, 2)}, {"$", "", 0, at(0, 0)}, {"$", "a\n", 0, at(2, 2)}, {"a$", "aa", 0, at(1, 2)}, {"a$", "ab", 0, no}, {"^$", "", 0, at(0, 0)}, {"^$", "a", 0, no}, {"^$", "a", 1, no}, {"^a|b", "ab", 1, at(1, 2)}, {"^a|b", "ab", 0, at(0, 1)}, {"(^|b)a", "aba", 1, at(1, 3)}, {"a*$", "aab", 0, at(3, 3)}, {"^a*", "aab", 1, no},
		// Bytes, whatever they are.
		{".", "é", 0, at(0, 1)}, {".", "é", 1, at(1, 2)}, {"\xa9", "é", 0, at(1, 2)}, {"[\x80-\xff]+", "aéb", 0, at(1, 3)}, {"\x00", "a\x00", 0, at(1, 2)}, {`\.`, "a.b", 0, at(1, 2)}, {"[[:digit:]]+", "ab12c3", 0, at(2, 4)},
		// Places that there are none of.
		{"", "ab", -1, no}, {"", "ab", 3, no}, {"", "", 1, no}, {"", "", -1, no}, {"a", "aaa", -1, no}, {"a", "aaa", -2, no}, {"a*", "aaa", 4, no}, {"a", "aaa", math.MaxInt, no}, {"a", "aaa", math.MinInt, no}, {"^", "a", -1, no}, {"$", "a", 2, no}, {"$", "a", -1, no},
	} {
		p := made(t, x.re)
		begin, end, ok := p.Find(x.s, x.at)
		if got := (found{begin, end, ok}); got != x.want {
			t.Errorf("Find of %q in %q from %d: %v, not %v", x.re, x.s, x.at, got, x.want)
		}
		if x.at == 0 && p.Is(x.s) != x.want.ok {
			t.Errorf("Is of %q in %q: %v", x.re, x.s, !x.want.ok)
		}
	}
}

// P7.2: whether a pattern is of something in a text, and of the whole of it.
func TestIsAndWhole(t *testing.T) {
	for _, x := range []struct {
		re, s     string
		is, whole bool
	}{
		{"a", "a", true, true}, {"a", "ab", true, false}, {"a", "ba", true, false}, {"a", "b", false, false}, {"a", "", false, false}, {"a", "aa", true, false}, {"", "", true, true}, {"", "a", true, false}, {"()", "a", true, false}, {"a*", "", true, true}, {"a*", "aaa", true, true}, {"a*", "aab", true, false}, {"a*", "baa", true, false}, {"a*", "b", true, false},
		// The whole is looked for, however short a branch ahead is.
		{"a|ab", "ab", true, true}, {"ab|a", "ab", true, true}, {"a|ab", "abc", true, false}, {"(a|ab)(c|bcd)", "abcd", true, true}, {"a|b", "b", true, true}, {"a|b", "ab", true, false}, {"(a|b)*", "abba", true, true}, {"(aa|aaa)*", "aaaaa", true, true}, {"(aa)*", "aaa", true, false}, {"a.*b", "a\nb", true, true}, {"a.*b", "a\nbc", true, false},
		{"^", "", true, true}, {"^", "a", true, false}, {"$", "", true, true}, {"$", "a", true, false}, {"^$", "", true, true}, {"^$", "a", false, false}, {"^ab$", "ab", true, true}, {"^ab$", "xab", false, false}, {"^a", "ab", true, false}, {"b$", "ab", true, false}, {"^b", "ab", false, false}, {"a$", "ab", false, false}, {"a|$", "b", true, false}, {"^|b", "ab", true, false},
		{".", "é", true, false}, {"..", "é", true, true}, {"é", "é", true, true}, {"[^\x00-\xff]", "a", false, false}, {"[^\x00-\xff]", "", false, false}, {"\x00", "\x00", true, true},
	} {
		p := made(t, x.re)
		if p.Is(x.s) != x.is || p.Whole(x.s) != x.whole {
			t.Errorf("%q in %q: Is %v, Whole %v", x.re, x.s, p.Is(x.s), p.Whole(x.s))
		}
	}
}

// P7.3: found one behind the other, and what is passed over.
func TestAllTable(t *testing.T) {
	type l = [][2]int
	for _, x := range []struct {
		re, s string
		want  l
	}{
		{"a*", "baa", l{{0, 0}, {1, 3}}}, {"a|ab", "xab", l{{1, 3}}},
		{"a", "", nil}, {"a", "b", nil}, {"a", "a", l{{0, 1}}}, {"a", "banana", l{{1, 2}, {3, 4}, {5, 6}}}, {"a", "aaa", l{{0, 1}, {1, 2}, {2, 3}}}, {"aa", "aaaaa", l{{0, 2}, {2, 4}}}, {"aba", "ababa", l{{0, 3}}}, {"na", "banana", l{{2, 4}, {4, 6}}}, {"a+", "aabaa", l{{0, 2}, {3, 5}}}, {"a|ab", "abaab", l{{0, 2}, {2, 3}, {3, 5}}}, {"ab|b", "abb", l{{0, 2}, {2, 3}}}, {".", "é", l{{0, 1}, {1, 2}}}, {".*", "a\nb", l{{0, 3}}},
		// Empty ones: at each place, but not where the last one ended.
		{"", "", l{{0, 0}}}, {"", "ab", l{{0, 0}, {1, 1}, {2, 2}}}, {"()", "é", l{{0, 0}, {1, 1}, {2, 2}}}, {"a*", "", l{{0, 0}}}, {"a*", "a", l{{0, 1}}}, {"a*", "b", l{{0, 0}, {1, 1}}}, {"a*", "ab", l{{0, 1}, {2, 2}}}, {"a*", "ba", l{{0, 0}, {1, 2}}}, {"a*", "bb", l{{0, 0}, {1, 1}, {2, 2}}}, {"a*", "aabaab", l{{0, 2}, {3, 5}, {6, 6}}}, {"a*", "abba", l{{0, 1}, {2, 2}, {3, 4}}}, {"a?", "aab", l{{0, 1}, {1, 2}, {3, 3}}}, {"a|", "bab", l{{0, 0}, {1, 2}, {3, 3}}}, {"|a", "aa", l{{0, 1}, {1, 2}}}, {"(ab)*", "abababa", l{{0, 6}, {7, 7}}}, {"(ab)*", "aab", l{{0, 0}, {1, 3}}}, {"x{0}", "xx", l{{0, 0}, {1, 1}, {2, 2}}},
		// The beginning but once; the end but once.
		{"^", "", l{{0, 0}}}, {"^", "ab", l{{0, 0}}}, {"$", "ab", l{{2, 2}}}, {"$", "", l{{0, 0}}}, {"^a", "aaa", l{{0, 1}}}, {"^a*", "aab", l{{0, 2}}}, {"^a*", "baa", l{{0, 0}}}, {"a$", "aaa", l{{2, 3}}}, {"a*$", "baa", l{{1, 3}}}, {"a*$", "aab", l{{3, 3}}}, {"^|a", "aa", l{{0, 1}, {1, 2}}}, {"^|a", "ba", l{{0, 0}, {1, 2}}}, {"a|$", "aa", l{{0, 1}, {1, 2}}}, {"a|$", "ab", l{{0, 1}, {2, 2}}}, {"b|$", "aab", l{{2, 3}}}, {"^|$", "ab", l{{0, 0}, {2, 2}}}, {"^|$", "", l{{0, 0}}}, {"^$", "a", nil}, {"^b|a", "aba", l{{0, 1}, {2, 3}}}, {"(^|b)a", "aba", l{{0, 1}, {1, 3}}},
	} {
		if got := made(t, x.re).All(x.s); !slices.Equal(got, x.want) {
			t.Errorf("All of %q in %q: %v, not %v", x.re, x.s, got, x.want)
		}
	}
}

// P7.3: an answer is new memory, and calls say nothing to later ones.
func TestMemory(t *testing.T) {
	p, q := made(t, "a*|b"), made(t, "b")
	want := [][2]int{{0, 0}, {1, 3}, {3, 4}, {4, 5}, {6, 6}, {7, 7}, {8, 8}, {9, 9}, {10, 10}}
	s := "xaabbxxxxx"
	all := p.All(s)
	if !slices.Equal(all, want) {
		t.Fatal(all)
	}
	full := all[:cap(all)]
	for i := range full {
		full[i] = [2]int{-9, -9}
	}
	again := p.All(s)
	if !slices.Equal(again, want) || !slices.Equal(q.All(s), [][2]int{{3, 4}, {4, 5}}) || !slices.Equal(p.All("b"), [][2]int{{0, 1}}) {
		t.Error(again)
	}
	p.Find("zzzzzaaaa", 5)
	p.Whole("aaaaaaa")
	if begin, end, ok := p.Find(s, 1); begin != 1 || end != 3 || !ok || p.Whole("") != true || q.Whole("") || p.Text() != "a*|b" || q.Text() != "b" {
		t.Error("one call is seen in another one:", begin, end, ok)
	}
	if !slices.Equal(again, want) {
		t.Error("an answer is changed by a later call:", again)
	}
}

// P7.2, P7.3: long texts, and patterns that may be gone through in many ways.
func TestToAnEnd(t *testing.T) {
	began := time.Now()
	long := strings.Repeat("a", 1<<18)
	if all := made(t, "").All(long); len(all) != len(long)+1 || all[len(long)] != [2]int{len(long), len(long)} {
		t.Error(len(all))
	}
	if all := made(t, "a").All(long); len(all) != len(long) || all[77] != [2]int{77, 78} {
		t.Error(len(all))
	}
	if all := made(t, "(a*)*|(a|a)*").All(long); !slices.Equal(all, [][2]int{{0, len(long)}}) {
		t.Error(len(all))
	}
	if begin, end, ok := made(t, "a{50}b|$").Find(long, 0); begin != len(long) || end != len(long) || !ok {
		t.Error(begin, end, ok)
	}
	for _, s := range []string{"(a*)*b", "(a|aa)*b", "((a*)*)*b", "(a?){50}a{50}b", "(.*){8}b", "(^*$*a*)*b"} {
		p := made(t, s)
		if p.Is(long[:1000]) || p.Whole(long[:1000]) || p.All(long[:1000]) != nil {
			t.Error(s)
		}
	}
	if d := time.Since(began); d > 20*time.Second {
		t.Error("too slow:", d)
	}
}

// No call of a pattern that was never made panics.
func TestZero(t *testing.T) {
	p := &match.Pattern{}
	p.Find("a", 0)
	p.Is("a")
	p.Whole("")
	p.All("ab")
	p.Text()
}

package nfa_test

import (
	"math"
	"reflect"
	"slices"
	"strings"
	"testing"
	"time"

	"auklet/api"
	"auklet/class"
	"auklet/ere"
	"auklet/nfa"
)

// empty, begin and end are the trees of "", ^ and $.
var (
	empty = api.Re{}
	begin = api.Re{K: api.ReBegin}
	end   = api.Re{K: api.ReEnd}
)

// of is the tree of one of the bytes of letters.
func of(letters string) api.Re {
	var set api.Set
	for _, c := range []byte(letters) {
		set = class.Add(set, c, c)
	}
	return api.Re{K: api.ReSet, Set: set}
}

// cat and alt are trees of parts, and rep is one of a repetition, whether they can be or not.
func cat(parts ...api.Re) api.Re { return api.Re{K: api.ReCat, L: parts} }

func alt(parts ...api.Re) api.Re { return api.Re{K: api.ReAlt, L: parts} }

func rep(least, most int, part api.Re) api.Re {
	return api.Re{K: api.ReRep, Min: least, Max: most, L: []api.Re{part}}
}

func star(part api.Re) api.Re { return rep(0, -1, part) }

// nested is r with f done to it n times.
func nested(n int, r api.Re, f func(api.Re) api.Re) api.Re {
	for range n {
		r = f(r)
	}
	return r
}

// times is a list of n times r.
func times(n int, r api.Re) []api.Re { return slices.Repeat([]api.Re{r}, n) }

// copied is r with lists of its own.
func copied(r api.Re) api.Re {
	r.L = slices.Clone(r.L)
	for i := range r.L {
		r.L[i] = copied(r.L[i])
	}
	return r
}

// tree is the tree of a pattern that can be read.
func tree(t testing.TB, s string) api.Re {
	t.Helper()
	r, _, e := ere.Parse(s)
	if e != api.OK {
		t.Fatalf("Parse(%q): %v", s, e)
	}
	return r
}

// built is the machine of a tree of which there is one.
func built(t testing.TB, r api.Re) *nfa.Prog {
	t.Helper()
	p, e := nfa.Build(r)
	if p == nil || e != api.OK {
		t.Fatalf("Build(%q): %v, %v", ere.Show(r), p, e)
	}
	return p
}

// wrong are trees that can't be.
func wrong() []api.Re {
	a, b := of("a"), of("b")
	self := make([]api.Re, 2)
	self[0], self[1] = api.Re{K: api.ReRep, Max: -1, L: self[1:]}, api.Re{K: api.ReRep, Max: -1, L: self[:1]}
	return []api.Re{
		{K: -1}, {K: 7}, {K: math.MaxInt}, {K: math.MinInt},
		{K: api.ReCat}, {K: api.ReAlt}, {K: api.ReRep}, cat(a), alt(a), {K: api.ReRep, Max: 1, L: []api.Re{a, b}},
		{K: api.ReEmpty, L: []api.Re{a}}, {K: api.ReSet, L: []api.Re{a}}, {K: api.ReBegin, L: []api.Re{a}}, {K: api.ReEnd, L: []api.Re{a}},
		{K: api.ReEmpty, Set: a.Set}, {K: api.ReBegin, Set: a.Set}, {K: api.ReEnd, Min: 1}, {K: api.ReSet, Set: a.Set, Max: 1}, {K: api.ReRep, Set: a.Set, Max: 1, L: []api.Re{a}},
		rep(-1, 1, a), rep(0, 51, a), rep(51, 51, a), rep(51, -1, a), rep(2, 1, a), rep(0, -2, a), rep(0, math.MaxInt, a), rep(math.MaxInt, -1, a), rep(math.MinInt, -1, a), rep(0, math.MinInt, a), rep(1, -1, rep(2, 1, a)), rep(math.MaxInt, math.MaxInt, empty),
		cat(a, cat(a, b)), alt(a, alt(a, b)), cat(a, empty), cat(empty, a), cat(empty, empty), cat(a, alt(b, api.Re{K: 8})), star(api.Re{K: -3}),
		nested(101, a, star), nested(2000, a, star), nested(101, empty, star), rep(0, 0, nested(100, a, star)), self[0],
	}
}

// P6.1: how many states a tree has, and one more.
func TestStatesTable(t *testing.T) {
	for _, x := range []struct {
		s string
		n int
	}{
		{"", 1}, {"()", 1}, {"a", 2}, {"^", 2}, {"$", 2}, {".", 2}, {"[a-z]", 2}, {"[^\x00-\xff]", 2},
		{"ab", 3}, {"abc", 4}, {"^a$", 4}, {"a|b", 4}, {"a|b|c", 6}, {"|", 2}, {"||", 3}, {"a|", 3}, {"|a", 3}, {"ab|cd", 6}, {"ab|", 4}, {"(a|b)c", 5}, {"(a|b)(c|d)", 7}, {"^|$", 4},
		{"a*", 3}, {"a+", 4}, {"a?", 3}, {"a{0}", 1}, {"a{1}", 2}, {"a{2}", 3}, {"a{50}", 51}, {"a{0,}", 3}, {"a{2,}", 5}, {"a{50,}", 53}, {"a{0,50}", 101}, {"a{2,5}", 9}, {"a{49,50}", 52}, {"a{50,50}", 51}, {"a{0,0}", 1},
		{"(ab)*", 4}, {"(ab)+", 6}, {"(ab)?", 4}, {"(ab){3}", 7}, {"(ab){3,}", 10}, {"(ab){3,5}", 13}, {"(a|b)*", 5}, {"(a|b)+", 8}, {"(a|b){2,3}", 11}, {"^*", 3}, {"$+", 4}, {"^{2}", 3},
		{"()*", 2}, {"()+", 2}, {"()?", 2}, {"(){3}", 1}, {"(){50}", 1}, {"(){3,}", 2}, {"(){3,5}", 3}, {"(){0,50}", 51}, {"(|)*", 3}, {"(|)+", 4}, {"(|){3}", 4}, {"a{0}*", 2}, {"a{0}{2,4}", 3}, {"(a{0}b{0})?", 2},
		{"a**", 4}, {"a*+", 6}, {"a*?", 4}, {"a*{2}", 5}, {"a{2}{3}", 7}, {"a{2}{3,}", 10}, {"a{2,3}{2,3}", 14}, {"a{0}b", 2}, {"a{0}b{0}", 1}, {"(a{2}|b*)c", 7}, {"a*b*c*", 7}, {"(a*b*)*", 6},
		{"(ab){0}", 1}, {"((a{50}){5}){0}", 1}, {"((a{50}){5}){0,1}", 252},
	} {
		r := tree(t, x.s)
		if n := nfa.States(r); n != x.n {
			t.Errorf("States(%q): %d, not %d", x.s, n, x.n)
		}
		if p := built(t, r); p.Size() != x.n {
			t.Errorf("Size of %q: %d, not %d", x.s, p.Size(), x.n)
		}
	}
}

// P6.1, P6.2: MaxStates is itself allowed, in each kind of tree; beyond it States tells one more, and Build ErrLong.
func TestStatesBound(t *testing.T) {
	a := of("a")
	for _, x := range []struct {
		name string
		r    api.Re
		n    int
	}{
		{"499 bytes", cat(times(499, a)...), 500}, {"500 bytes", cat(times(500, a)...), 501}, {"501 bytes", cat(times(501, a)...), 501}, {"100000 bytes", cat(times(100000, a)...), 501},
		{"250 branches", alt(times(250, a)...), 500}, {"251 branches", alt(times(251, a)...), 501}, {"250 branches, and none", alt(append(times(250, a), empty)...), 501}, {"500 branches of none", alt(times(500, empty)...), 500}, {"501 branches of none", alt(times(501, empty)...), 501}, {"502 branches of none", alt(times(502, empty)...), 501}, {"100000 branches of none", alt(times(100000, empty)...), 501},
		{"249 branches and an empty one", alt(append(times(249, a), empty)...), 499}, {"249 and two", alt(append(times(249, a), empty, empty)...), 500}, {"249 and three", alt(append(times(249, a), empty, empty, empty)...), 501},
		{"9 times 50, and 49", cat(rep(9, 9, rep(50, 50, a)), rep(49, 49, a)), 500}, {"10 times 50", rep(10, 10, rep(50, 50, a)), 501},
		{"498 bytes, *", star(cat(times(498, a)...)), 500}, {"499 bytes, *", star(cat(times(499, a)...)), 501}, {"499 bytes, once", rep(1, 1, cat(times(499, a)...)), 500}, {"249 bytes, +", rep(1, -1, cat(times(249, a)...)), 500}, {"250 bytes, +", rep(1, -1, cat(times(250, a)...)), 501}, {"498 bytes, ?", rep(0, 1, cat(times(498, a)...)), 500}, {"499 bytes, ?", rep(0, 1, cat(times(499, a)...)), 501},
		{"8 bytes, {0,50}", rep(0, 50, cat(times(8, a)...)), 451}, {"9 bytes, {0,50}", rep(0, 50, cat(times(9, a)...)), 501}, {"9 bytes, {1,50}", rep(1, 50, cat(times(9, a)...)), 500}, {"10 bytes, {49}", rep(49, 49, cat(times(10, a)...)), 491}, {"10 bytes, {50}", rep(50, 50, cat(times(10, a)...)), 501},
		{"{50,} of 9", rep(50, -1, cat(times(9, a)...)), 461}, {"{50,} of 10", rep(50, -1, cat(times(10, a)...)), 501},
		{"{50} of {50}", rep(50, 50, rep(50, 50, a)), 501}, {"{50} 5 times", nested(5, a, func(r api.Re) api.Re { return rep(50, 50, r) }), 501}, {"{50} 100 times", nested(100, a, func(r api.Re) api.Re { return rep(50, 50, r) }), 501}, {"+ 100 times", nested(100, a, func(r api.Re) api.Re { return rep(1, -1, r) }), 501}, {"{50,} 100 times, of nothing", nested(100, empty, func(r api.Re) api.Re { return rep(50, -1, r) }), 501},
		{"+ 7 times", nested(7, a, func(r api.Re) api.Re { return rep(1, -1, r) }), 256}, {"+ 8 times", nested(8, a, func(r api.Re) api.Re { return rep(1, -1, r) }), 501},
		// Of a part none of which is asked for.
		{"499 bytes, {0}", rep(0, 0, cat(times(499, a)...)), 1}, {"500 bytes, {0}", rep(0, 0, cat(times(500, a)...)), 501}, {"501 bytes, {0}", rep(0, 0, cat(times(501, a)...)), 501}, {"10000 bytes, {0}", rep(0, 0, cat(times(10000, a)...)), 501}, {"{0} of {0} of 501 bytes", rep(0, 0, rep(0, 0, cat(times(501, a)...))), 501},
		{"{0} of a, and of 501 bytes", rep(0, 0, alt(a, rep(0, 0, cat(times(501, a)...)))), 501}, {"a, and {0} of 501 bytes, and b", cat(a, rep(0, 0, cat(times(501, a)...)), of("b")), 501}, {"{0} of {50} of {50}", rep(0, 0, rep(50, 50, rep(50, 50, a))), 501}, {"{0} of 100 times {50}", rep(0, 0, nested(99, a, func(r api.Re) api.Re { return rep(50, 50, r) })), 501},
		{"498 bytes, and {0} of 499", cat(append(times(498, a), rep(0, 0, cat(times(499, a)...)))...), 499}, {"499, and {0} of 499", cat(append(times(499, a), rep(0, 0, cat(times(499, a)...)))...), 500},
		// Of nothing, as often as may be.
		{"{50} 100 times, of nothing", nested(100, empty, func(r api.Re) api.Re { return rep(50, 50, r) }), 1}, {"{50} 99 times, of {0}", nested(99, rep(0, 0, a), func(r api.Re) api.Re { return rep(50, 50, r) }), 1}, {"* of that", star(nested(99, empty, func(r api.Re) api.Re { return rep(50, 50, r) })), 2}, {"100000 times {0}", cat(times(100000, rep(0, 0, a))...), 1}, {"{49} of a and these", rep(49, 49, cat(append(times(100000, rep(0, 0, a)), a)...)), 50},
		{"100 stars", nested(100, a, star), 102}, {"100 stars of nothing", nested(100, empty, star), 101}, {"100 ?", nested(100, a, func(r api.Re) api.Re { return rep(0, 1, r) }), 102},
	} {
		if n := nfa.States(x.r); n != x.n {
			t.Errorf("States of %s: %d, not %d", x.name, n, x.n)
		}
		p, e := nfa.Build(x.r)
		switch {
		case x.n > 500 && (p != nil || e != api.ErrLong):
			t.Errorf("Build of %s: %v, %v, not ErrLong", x.name, p, e)
		case x.n <= 500 && (p == nil || e != api.OK || p.Size() != x.n):
			t.Errorf("Build of %s: %v, %v", x.name, p, e)
		}
	}
}

// P6.1, P6.2: trees that can't be.
func TestWrong(t *testing.T) {
	for i, r := range wrong() {
		if n := nfa.States(r); n != 0 {
			t.Errorf("States of %d: %d", i, n)
		}
		if p, e := nfa.Build(r); p != nil || e != api.ErrArg {
			t.Errorf("Build of %d: %v, %v", i, p, e)
		}
		// A tree that can't be is ErrArg, however long it is.
		long := cat(append(times(600, of("a")), r)...)
		if p, e := nfa.Build(long); p != nil || e != api.ErrArg || nfa.States(long) != 0 {
			t.Errorf("Build of 600 bytes and %d: %v, %v, %d", i, p, e, nfa.States(long))
		}
	}
}

// P6.3: from which place to which, in texts and trees of all kinds.
func TestEndsTable(t *testing.T) {
	none := []int{}
	for _, x := range []struct {
		re, s string
		at    int
		ends  []int
	}{
		{"a*", "aab", 0, []int{0, 1, 2}}, {"a*", "aab", 1, []int{1, 2}}, {"a*", "aab", 2, []int{2}}, {"a*", "aab", 3, []int{3}},
		// A byte, a set.
		{"a", "a", 0, []int{1}}, {"a", "a", 1, none}, {"a", "b", 0, none}, {"a", "", 0, none}, {"a", "ba", 1, []int{2}}, {"a", "ba", 0, none}, {".", "\n", 0, []int{1}}, {".", "\x00", 0, []int{1}}, {".", "\xff", 0, []int{1}}, {".", "é", 0, []int{1}}, {"..", "é", 0, []int{2}}, {"[^a]", "b", 0, []int{1}}, {"[^a]", "a", 0, none}, {"[^\x00-\xff]", "a", 0, none}, {"[\x80-\xff]", "\x80", 0, []int{1}}, {"[\x80-\xff]", "\x7f", 0, none}, {"[?@]", "?", 0, []int{1}}, {"[?@]", "@", 0, []int{1}},
		// Nothing.
		{"", "", 0, []int{0}}, {"", "ab", 0, []int{0}}, {"", "ab", 1, []int{1}}, {"", "ab", 2, []int{2}},
		// The beginning, the end.
		{"^", "", 0, []int{0}}, {"^", "ab", 0, []int{0}}, {"^", "ab", 1, none}, {"^", "ab", 2, none}, {"^", "a\nb", 2, none}, {"$", "", 0, []int{0}}, {"$", "ab", 0, none}, {"$", "ab", 1, none}, {"$", "ab", 2, []int{2}}, {"$", "a\nb", 1, none}, {"$", "a\n", 1, none},
		{"^$", "", 0, []int{0}}, {"^$", "a", 0, none}, {"^$", "a", 1, none}, {"$^", "", 0, []int{0}}, {"$^", "a", 1, none}, {"^a", "ab", 0, []int{1}}, {"^a", "aa", 1, none}, {"a$", "aa", 0, none}, {"a$", "aa", 1, []int{2}}, {"a^b", "ab", 0, none}, {"a$b", "ab", 0, none}, {"^^a", "a", 0, []int{1}}, {"a$$", "a", 0, []int{1}}, {"a*^", "aa", 0, []int{0}}, {"a*$", "aa", 0, []int{2}}, {"$a*", "aa", 0, none}, {"$a*", "aa", 2, []int{2}},
		{"(^|a)b", "ab", 0, []int{2}}, {"(^|a)b", "b", 0, []int{1}}, {"(^|a)b", "bb", 1, none}, {"b($|a)", "ba", 0, []int{2}}, {"b($|a)", "b", 0, []int{1}}, {"b($|a)", "bb", 0, none}, {"(^a)*", "aaa", 0, []int{0, 1}}, {"(^a)*", "aaa", 1, []int{1}}, {"(a$)*", "aaa", 0, []int{0}}, {"(a$)*", "aaa", 2, []int{2, 3}}, {"(^|a)*", "aa", 0, []int{0, 1, 2}}, {"(^|a)+", "aa", 1, []int{2}}, {"^{2}", "a", 0, []int{0}}, {"^*", "a", 1, []int{1}}, {"^+", "a", 1, none}, {"${3}", "a", 1, []int{1}}, {"$?", "a", 0, []int{0}}, {"^{0}a", "aa", 1, []int{2}}, {"$|a", "aa", 1, []int{2}}, {"$|a", "aa", 2, []int{2}},
		// One behind the other.
		{"ab", "ab", 0, []int{2}}, {"ab", "aab", 0, none}, {"ab", "aab", 1, []int{3}}, {"ab", "a", 0, none}, {"abc", "abcabc", 3, []int{6}}, {"aba", "ababa", 0, []int{3}}, {"a*b", "aab", 0, []int{3}}, {"a*a", "aaa", 0, []int{1, 2, 3}}, {"a*b*", "aabb", 0, []int{0, 1, 2, 3, 4}}, {"a*b*", "aabb", 1, []int{1, 2, 3, 4}}, {"a*b*c", "aabb", 0, none}, {".*b", "abab", 0, []int{2, 4}}, {".*.*", "ab", 0, []int{0, 1, 2}},
		// One of them.
		{"a|b", "a", 0, []int{1}}, {"a|b", "b", 0, []int{1}}, {"a|b", "c", 0, none}, {"a|ab", "ab", 0, []int{1, 2}}, {"ab|a", "ab", 0, []int{1, 2}}, {"a|a", "a", 0, []int{1}}, {"a|", "a", 0, []int{0, 1}}, {"|a", "a", 0, []int{0, 1}}, {"|", "a", 0, []int{0}}, {"a|ab|abc|b", "abc", 0, []int{1, 2, 3}}, {"abc|b|ab", "abc", 0, []int{2, 3}}, {"(a|ab)(c|bc)", "abc", 0, []int{3}}, {"(a|ab)(b|)", "ab", 0, []int{1, 2}}, {"x(a|b|c)y", "xby", 0, []int{3}}, {"x(a|b|c)y", "xcy", 0, []int{3}},
		// So many times.
		{"a+", "aab", 0, []int{1, 2}}, {"a+", "b", 0, none}, {"a?", "aab", 0, []int{0, 1}}, {"a?", "b", 0, []int{0}}, {"a{2}", "aaaa", 0, []int{2}}, {"a{2}", "a", 0, none}, {"a{2,}", "aaaa", 0, []int{2, 3, 4}}, {"a{2,3}", "aaaa", 0, []int{2, 3}}, {"a{0}", "aa", 0, []int{0}}, {"a{0}", "aa", 1, []int{1}}, {"a{0,2}", "aaaa", 0, []int{0, 1, 2}}, {"a{1,3}", "aaaa", 1, []int{2, 3, 4}}, {"a{1}", "aa", 0, []int{1}}, {"a{3,3}", "aaaa", 0, []int{3}}, {"a{3,}", "aa", 0, none},
		{"(ab)*", "ababa", 0, []int{0, 2, 4}}, {"(ab){2}", "ababab", 0, []int{4}}, {"(ab|a){2}", "aab", 0, []int{2, 3}}, {"(a|b)*", "abc", 0, []int{0, 1, 2}}, {"(aa|aaa){2,3}", "aaaaaaaaaa", 0, []int{4, 5, 6, 7, 8, 9}}, {"(aaa)*", "aaaaaaaa", 1, []int{1, 4, 7}}, {"(aa){1,2}", "aaaaaa", 0, []int{2, 4}}, {"(a{2}){3}", "aaaaaaa", 0, []int{6}}, {"(a{2,3}){2}", "aaaaaaa", 0, []int{4, 5, 6}}, {"(ab?){2}", "abab", 0, []int{3, 4}}, {"a{2}b{0}c", "aac", 0, []int{3}},
		// Parts that may be empty, again and again.
		{"()*", "a", 0, []int{0}}, {"()*", "a", 1, []int{1}}, {"()+", "", 0, []int{0}}, {"(){3}", "", 0, []int{0}}, {"(){2,5}a", "a", 0, []int{1}}, {"(a*)*", "aab", 0, []int{0, 1, 2}}, {"(a*)+", "aab", 0, []int{0, 1, 2}}, {"(a*)+b", "aab", 0, []int{3}}, {"(a?){3}", "aaaa", 0, []int{0, 1, 2, 3}}, {"(a?){2,3}", "aaaa", 0, []int{0, 1, 2, 3}}, {"(a|){2}", "aaa", 0, []int{0, 1, 2}}, {"(|a){2,}", "aaa", 0, []int{0, 1, 2, 3}}, {"(a*b*)*", "abba", 0, []int{0, 1, 2, 3, 4}}, {"(a*|b)*", "ab", 0, []int{0, 1, 2}}, {"((|a)+|b)*c", "abc", 0, []int{3}}, {"a**", "aa", 0, []int{0, 1, 2}}, {"a*{2}", "aa", 0, []int{0, 1, 2}}, {"a+{2}", "aaa", 0, []int{2, 3}}, {"a{2}*", "aaaaa", 0, []int{0, 2, 4}}, {"a{2}+?", "aaaaa", 0, []int{0, 2, 4}}, {"(^a|b)*", "ab", 0, []int{0, 1, 2}}, {"(b|^a)*", "ab", 1, []int{1, 2}}, {"($|a)*", "aa", 0, []int{0, 1, 2}}, {"($|a){3}", "aa", 0, []int{2}}, {"($|a){3}", "aa", 2, []int{2}},
		// Places that there are none of.
		{"", "ab", -1, none}, {"", "ab", 3, none}, {"", "", 1, none}, {"", "", -1, none}, {"a*", "aa", math.MaxInt, none}, {"a*", "aa", math.MinInt, none}, {".*", "aa", -2, none}, {"^", "", -1, none}, {"$", "", 1, none}, {"$", "ab", 3, none},
	} {
		p := built(t, tree(t, x.re))
		last := -1
		if len(x.ends) > 0 {
			last = slices.Max(x.ends)
		}
		if ends := p.Ends(x.s, x.at); !slices.Equal(ends, x.ends) {
			t.Errorf("Ends of %q in %q from %d: %v, not %v", x.re, x.s, x.at, ends, x.ends)
		}
		if n := p.Longest(x.s, x.at); n != last {
			t.Errorf("Longest of %q in %q from %d: %d, not %d", x.re, x.s, x.at, n, last)
		}
	}
}

// P6.3: each byte is one of just those sets that have it.
func TestEachByte(t *testing.T) {
	for i := range 256 {
		c := string([]byte{byte(i)})
		one := built(t, of(c))
		all := built(t, of(strings.Repeat("x", 3)+c))
		for k := range 256 {
			s := string([]byte{byte(k)})
			if n := one.Longest(s, 0); (n == 1) != (i == k) || (n == -1) != (i != k) {
				t.Errorf("%q in %q: %d", c, s, n)
			}
			if n := all.Longest(s, 0); (n == 1) != (i == k || k == 'x') {
				t.Errorf("x or %q in %q: %d", c, s, n)
			}
		}
	}
}

// P6.2: the machine is not that of the tree as it becomes, nor is the tree changed; P6.3: an answer is new memory.
func TestMemory(t *testing.T) {
	r := tree(t, "(ab|c{2,3})*d?")
	kept := copied(r)
	p := built(t, r)
	nfa.States(r)
	if !reflect.DeepEqual(r, kept) {
		t.Error("the tree is changed")
	}
	q := built(t, r)
	for i := range r.L {
		r.L[i] = api.Re{K: api.ReRep, L: []api.Re{{K: 77}}}
	}
	want := []int{0, 2, 4, 5, 6}
	ends := p.Ends("abccc"+"d", 0)
	if !slices.Equal(ends, []int{0, 2, 4, 5, 6}) {
		t.Error(ends)
	}
	full := ends[:cap(ends)]
	for i := range full {
		full[i] = -9
	}
	again := p.Ends("abcccd", 0)
	if !slices.Equal(again, want) || !slices.Equal(q.Ends("abcccd", 0), want) || !slices.Equal(p.Ends("abcccd", 0), want) {
		t.Error(again)
	}
	// One machine's calls say nothing to those of another one, or to later ones.
	p.Longest("ababab", 2)
	if q.Longest("x", 0) != 0 || p.Longest("x", 0) != 0 || p.Size() != q.Size() || p.Longest("x", 7) != -1 || p.Longest("dd", 0) != 1 {
		t.Error("one call is seen in another one")
	}
	if !slices.Equal(again, want) {
		t.Error("an answer is changed by a later call")
	}
}

// P6.3: texts and patterns that would take for ever, were each way gone by itself.
func TestToAnEnd(t *testing.T) {
	began := time.Now()
	long := strings.Repeat("a", 20000)
	for _, s := range []string{"(a*)*b", "(a|a)*b", "(a|aa)*b", "((a*)*)*b", "(a?){50}a{50}b", "(.*){8}b", "((a|b)*|(b|a)*)*c", "(a{0,9}){0,9}b", "(()*()*)*b", "(^*$*a*)*b"} {
		p := built(t, tree(t, s))
		if n := p.Longest(long, 0); n != -1 {
			t.Errorf("%s: %d", s, n)
		}
	}
	p := built(t, nested(100, of("a"), star))
	if n := len(p.Ends(long, 0)); n != 20001 {
		t.Error(n)
	}
	p = built(t, alt(times(500, empty)...))
	if x := p.Ends(long, 7); !slices.Equal(x, []int{7}) {
		t.Error(x)
	}
	// What can't go on is given up at once.
	p = built(t, tree(t, "a{2}b"))
	huge := strings.Repeat("a", 1<<20)
	for at := range len(huge) {
		if n := p.Longest(huge, at); n != -1 {
			t.Fatal(at, n)
		}
	}
	if d := time.Since(began); d > 20*time.Second {
		t.Error("too slow:", d)
	}
}

// No call of a machine that was never built panics.
func TestZero(t *testing.T) {
	p := &nfa.Prog{}
	p.Ends("a", 0)
	p.Longest("a", 1)
	p.Size()
}

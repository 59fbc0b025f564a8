package match_test

import (
	"math/rand"
	"regexp"
	"slices"
	"strings"
	"testing"

	"auklet/api"
	"auklet/ere"
	"auklet/match"
	"auklet/nfa"
	"auklet/samples"
)

// reach is to which place a pattern goes from each place of s: the greatest one; -1, if there is none.
func reach(machine *nfa.Prog, s string) []int {
	ends := make([]int, len(s)+1)
	for at := range ends {
		ends[at] = slices.Max(append(machine.Ends(s, at), -1))
	}
	return ends
}

// wantAll is what All is to tell, read from the places to which a pattern goes: from left to right, what begins ahead of an end being left out.
func wantAll(ends []int) [][2]int {
	var all [][2]int
	free, ended := 0, -1
	for begin, end := range ends {
		if begin < free || end < 0 || begin == end && begin == ended {
			continue
		}
		all = append(all, [2]int{begin, end})
		free, ended = end, end
	}
	return all
}

// hold holds a pattern in a text against a machine's Ends.
func hold(t *testing.T, p *match.Pattern, machine *nfa.Prog, s string) {
	t.Helper()
	ends := reach(machine, s)
	for at := range ends {
		first := slices.IndexFunc(ends[at:], func(end int) bool { return end >= 0 })
		begin, end, ok := p.Find(s, at)
		switch {
		case first < 0 && (begin != 0 || end != 0 || ok):
			t.Fatalf("Find of %q in %q from %d: %d, %d, %v: there is none", p.Text(), s, at, begin, end, ok)
		case first >= 0 && (begin != at+first || end != ends[at+first] || !ok):
			t.Fatalf("Find of %q in %q from %d: %d, %d, %v, not %d, %d", p.Text(), s, at, begin, end, ok, at+first, ends[at+first])
		}
	}
	if p.Is(s) != (slices.Max(ends) >= 0) || p.Whole(s) != slices.Contains(machine.Ends(s, 0), len(s)) {
		t.Fatalf("%q in %q: Is %v, Whole %v", p.Text(), s, p.Is(s), p.Whole(s))
	}
	if all := p.All(s); !slices.Equal(all, wantAll(ends)) {
		t.Fatalf("All of %q in %q: %v, not %v", p.Text(), s, all, wantAll(ends))
	}
	inOrder(t, p, s)
}

// inOrder holds a pattern's All in a text against P7.5.
func inOrder(t *testing.T, p *match.Pattern, s string) {
	t.Helper()
	behind, empty := 0, -1
	for _, x := range p.All(s) {
		if x[0] < behind || x[1] < x[0] || x[1] > len(s) || x[0] == x[1] && x[0] == empty {
			t.Fatalf("All of %q in %q: %v", p.Text(), s, p.All(s))
		}
		if behind = x[1]; x[0] == x[1] {
			empty = x[0]
		}
	}
}

// P7.2, P7.3, P7.4, P7.5: all short patterns in all short texts.
func TestAgainstEnds(t *testing.T) {
	texts := samples.Joined(4, "a", "b")
	many := 0
	for _, s := range samples.Joined(4, "a", "b", "(", ")", "|", "*", "+", "?", "{2}", "{0,2}", "^", "$") {
		tree, _, e := ere.Parse(s)
		if e != api.OK {
			continue
		}
		machine, e := nfa.Build(tree)
		if e != api.OK {
			t.Fatal(s, e)
		}
		p := made(t, s)
		for _, x := range texts {
			hold(t, p, machine, x)
		}
		many++
	}
	if many < 4000 {
		t.Error("too few patterns:", many)
	}
}

// P7.4: what is found is what the library of Go finds, where that reads a pattern the same way.
func TestAgainstLibrary(t *testing.T) {
	numbers := rand.New(rand.NewSource(7))
	pieces := []string{"a", "b", "a", "b", "ab", "(", ")", "(", ")", "|", "*", "+", "?", "{2}", "{1,3}", "{0,2}", "^", "$", ".", "[^a]", "(a|ab)", "(b*a)", `\.`}
	lazy := regexp.MustCompile(`[*+?}]\?`)
	many := 0
	for range 60000 {
		var s strings.Builder
		for range 1 + numbers.Intn(9) {
			s.WriteString(pieces[numbers.Intn(len(pieces))])
		}
		// To the library a ? behind a repetition means another thing.
		if lazy.MatchString(s.String()) {
			continue
		}
		p, _, e := match.New(s.String())
		library, wrong := regexp.Compile("(?s:" + s.String() + ")")
		if e != api.OK || wrong != nil {
			continue
		}
		library.Longest()
		for range 6 {
			holdLibrary(t, p, library, samples.Bytes(numbers.Intn, "aaabbb.\n", 12))
		}
		many++
	}
	if many < 5000 {
		t.Error("too few patterns:", many)
	}
}

// holdLibrary holds a pattern in a text against the library's.
func holdLibrary(t *testing.T, p *match.Pattern, library *regexp.Regexp, s string) {
	t.Helper()
	var want [][2]int
	for _, x := range library.FindAllStringIndex(s, -1) {
		want = append(want, [2]int{x[0], x[1]})
	}
	if all := p.All(s); !slices.Equal(all, want) {
		t.Fatalf("All of %q in %q: %v, not %v", p.Text(), s, all, want)
	}
	begin, end, ok := p.Find(s, 0)
	switch first := library.FindStringIndex(s); {
	case first == nil && (begin != 0 || end != 0 || ok || p.Is(s)):
		t.Fatalf("Find of %q in %q: %d, %d, %v: there is none", p.Text(), s, begin, end, ok)
	case first != nil && (begin != first[0] || end != first[1] || !ok || !p.Is(s)):
		t.Fatalf("Find of %q in %q: %d, %d, %v, not %v", p.Text(), s, begin, end, ok, first)
	}
	inOrder(t, p, s)
}

// P7.2, P7.3, P7.4, P7.5: patterns and texts of any bytes.
func TestOfAnyBytes(t *testing.T) {
	numbers := rand.New(rand.NewSource(77))
	many := 0
	for range 20000 {
		s := samples.Bytes(numbers.Intn, "a\xc3\xa9\x00\xff.*|()[]^$-\\{}2,", 7)
		tree, place, e := ere.Parse(s)
		p, at, told := match.New(s)
		if e != told || place != at {
			t.Fatalf("New(%q): %d, %v", s, at, told)
		}
		if e != api.OK {
			continue
		}
		machine, _ := nfa.Build(tree)
		for range 4 {
			hold(t, p, machine, samples.Bytes(numbers.Intn, "a\xc3\xa9\x00\xff*", 8))
		}
		many++
	}
	if many < 2000 {
		t.Error("too few patterns:", many)
	}
}

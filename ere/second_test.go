package ere_test

import (
	"regexp"
	"slices"
	"strconv"
	"testing"

	"auklet/api"
	"auklet/class"
	"auklet/ere"
)

// group is the kind of ( ) in a tree that is read here; Parse tells no such part.
const group = 9

// simple is r with what P5.1 says of ( ), of a ReCat in a ReCat, and so on done to all of its parts, again and again, one of these at a time, till nothing is to be done.
func simple(r api.Re) api.Re {
	for {
		next, ok := step(r)
		if !ok {
			return r
		}
		r = next
	}
}

// step is r with one of these things done, if there is one to do.
func step(r api.Re) (api.Re, bool) {
	joins := r.K == api.ReCat || r.K == api.ReAlt
	switch {
	case r.K == group, joins && len(r.L) == 1:
		return r.L[0], true
	case joins && len(r.L) == 0:
		return api.Re{}, true
	}
	for i, part := range r.L {
		switch {
		case r.K == api.ReCat && part.K == api.ReEmpty:
			r.L = slices.Delete(slices.Clone(r.L), i, i+1)
			return r, true
		case joins && part.K == r.K:
			r.L = slices.Concat(r.L[:i], part.L, r.L[i+1:])
			return r, true
		}
		if next, ok := step(part); ok {
			r.L = slices.Clone(r.L)
			r.L[i] = next
			return r, true
		}
	}
	return r, false
}

// word is a word of a pattern: a byte behind \, a repetition, or a byte.
var word = regexp.MustCompile(`(?s)^(?:\\(.)|([*+?]|\{(\d\d?)(,(\d\d?)?)?\})|([^\\]))`)

// read is what P5.1 and P5.2 say of s, of bytes below 128, in another way than the package: word by word, with a list of what is open.
func read(s string) (api.Re, int, api.Errno) {
	if len(s) > 400 {
		return api.Re{}, 0, api.ErrLong
	}
	// Of each ( that is open the branches, of each branch the pieces.
	open := [][][]api.Re{{nil}}
	tree := func() api.Re {
		l := open[len(open)-1]
		r := api.Re{K: api.ReAlt}
		for _, pieces := range l {
			r.L = append(r.L, api.Re{K: api.ReCat, L: pieces})
		}
		open = open[:len(open)-1]
		return r
	}
	for at := 0; at < len(s); {
		branches := open[len(open)-1]
		last := &branches[len(branches)-1]
		m := word.FindStringSubmatch(s[at:])
		switch c := s[at]; {
		case m == nil:
			return api.Re{}, len(s), api.ErrShort
		case (m[2] != "" || c == '{') && len(*last) == 0:
			return api.Re{}, at, api.ErrRepeat
		case m[2] != "":
			r, ok := repeated(m, (*last)[len(*last)-1])
			if !ok {
				return api.Re{}, at, api.ErrRepeat
			}
			(*last)[len(*last)-1] = r
		case c == '{':
			return api.Re{}, at, api.ErrRepeat
		case m[1] != "":
			x := map[string]string{"n": "\n", "t": "\t"}[m[1]]
			if x == "" {
				x = m[1]
			}
			*last = append(*last, of(x))
		case c == '(':
			if len(open) > 20 {
				return api.Re{}, at, api.ErrLong
			}
			open = append(open, [][]api.Re{nil})
		case c == ')' && len(open) == 1:
			return api.Re{}, at, api.ErrForm
		case c == ')':
			r := api.Re{K: group, L: []api.Re{tree()}}
			outer := open[len(open)-1]
			outer[len(outer)-1] = append(outer[len(outer)-1], r)
		case c == '|':
			open[len(open)-1] = append(branches, nil)
		case c == '[':
			set, end, e := class.Parse(s, at)
			if e != api.OK {
				return api.Re{}, at, e
			}
			*last = append(*last, api.Re{K: api.ReSet, Set: set})
			at = end
			continue
		case c == '.':
			*last = append(*last, dot)
		case c == '^':
			*last = append(*last, begin)
		case c == '$':
			*last = append(*last, end)
		default:
			*last = append(*last, of(s[at:at+1]))
		}
		at += len(m[0])
	}
	if len(open) > 1 {
		return api.Re{}, len(s), api.ErrShort
	}
	return simple(tree()), 0, api.OK
}

// repeated is r repeated as the word says, if it may be.
func repeated(m []string, r api.Re) (api.Re, bool) {
	least, _ := strconv.Atoi(m[3])
	most, _ := strconv.Atoi(m[5])
	switch {
	case m[2] == "*":
		return rep(0, -1, r), true
	case m[2] == "+":
		return rep(1, -1, r), true
	case m[2] == "?":
		return rep(0, 1, r), true
	case m[4] == ",":
		return rep(least, -1, r), least <= 50
	case m[4] == "":
		most = least
	}
	return rep(least, most, r), least <= most && most <= 50
}

// check holds Parse of s against the second reading, and what comes of its tree against s.
func check(t *testing.T, s string) api.Errno {
	t.Helper()
	want, place, fault := read(s)
	r, at, e := ere.Parse(s)
	if !same(r, want) || at != place || e != fault {
		t.Fatalf("Parse(%q): %v, %d, %v, not %v, %d, %v", s, r, at, e, want, place, fault)
	}
	if e == api.OK {
		back(t, r)
	}
	return e
}

// openMost is how many ( that mean a group are open at once in s, at most; s is of Show.
func openMost(s string) int {
	most, open := 0, 0
	for at := 0; at < len(s); at++ {
		switch s[at] {
		case '[':
			_, end, _ := class.Parse(s, at)
			at = end - 1
		case '(':
			open++
			most = max(most, open)
		case ')':
			open--
		}
	}
	return most
}

// back holds P5.5 for r, which can be unless it is too deep: Parse of Show is r, or ErrLong.
func back(t *testing.T, r api.Re) {
	t.Helper()
	if !ere.Can(r) {
		if levels(r) <= 101 {
			t.Fatalf("Can(%v)", r)
		}
		return
	}
	s := ere.Show(r)
	got, at, e := ere.Parse(s)
	if len(s) > 400 || openMost(s) > 20 {
		if !same(got, empty) || e != api.ErrLong {
			t.Fatalf("Parse of %q: %v, %d, %v, not ErrLong", s, got, at, e)
		}
		return
	}
	if !same(got, r) || at != 0 || e != api.OK {
		t.Fatalf("Parse of %q: %v, %d, %v, not %v", s, got, at, e, r)
	}
}

// levels is how many levels r has.
func levels(r api.Re) int {
	most := 0
	for _, part := range r.L {
		most = max(most, levels(part))
	}
	return most + 1
}

// P5.1, P5.2, P5.5: Parse of all short texts, against a second reading, and there and back.
func TestParseAllShort(t *testing.T) {
	told := map[api.Errno]int{}
	for _, pieces := range [][]string{
		{"a", "\\", "n", "[", "]", "(", ")", "|", "*", "{", "}", "1", ",", "^", "."},
		{"a", "[^b]", "(", ")", "()", "|", "?", "{2}", "{2,1}", "{0,3}", "[[:x:]]", "\\(", "$"},
	} {
		l := []string{""}
		for range 5 {
			var next []string
			for _, s := range l {
				told[check(t, s)]++
				for _, p := range pieces {
					next = append(next, s+p)
				}
			}
			l = next
		}
	}
	for _, e := range []api.Errno{api.OK, api.ErrShort, api.ErrForm, api.ErrRepeat, api.ErrClass} {
		if told[e] == 0 {
			t.Errorf("no text that answers %v", e)
		}
	}
}

// numbers are numbers without a rule, the same each time.
type numbers uint64

// below is the next one, from 0 to n - 1.
func (x *numbers) below(n int) int {
	*x ^= *x << 13
	*x ^= *x >> 7
	*x ^= *x << 17
	return int(*x % numbers(n))
}

// P5.1, P5.2, P5.5: long texts without a rule, whole and cut, against a second reading.
func TestParseLongTexts(t *testing.T) {
	x := numbers(88172645463325252)
	pieces := []string{"a", "b", "ab", "[a-c]", "[[:digit:]]", ".", "^", "$", "\\n", "\\\\", "|", "|", "(", "(", "(", ")", ")", ")", "()", "*", "+", "?", "{3}", "{0,50}", "{2,}", "{07}", "]", "}", ","}
	told := map[api.Errno]int{}
	for range 4000 {
		s, open := "", 0
		for most := x.below(430); len(s) < most; {
			p := pieces[x.below(len(pieces))]
			switch {
			case p == ")" && open == 0 && x.below(50) > 0, p == "(" && open == 20 && x.below(20) > 0:
				continue
			case p == "(":
				open++
			case p == ")":
				open--
			case len(p) > 0 && (p[0] == '*' || p[0] == '+' || p[0] == '?' || p[0] == '{') && x.below(50) > 0:
				s += "a"
			}
			s += p
		}
		told[check(t, s)]++
		for ; open > 0; open-- {
			s += ")"
		}
		told[check(t, s)]++
	}
	for _, e := range []api.Errno{api.OK, api.ErrShort, api.ErrForm, api.ErrRepeat, api.ErrLong} {
		if told[e] < 100 {
			t.Errorf("too few texts that answer %v: %d", e, told[e])
		}
	}
}

// P5.3, P5.5: all trees of two levels over few leaves, whether they can be or not: they can, if nothing is to be done to them.
func TestCanAllSmall(t *testing.T) {
	leaves := []api.Re{empty, of("a"), dot, begin}
	parts := slices.Clone(leaves)
	for _, a := range leaves {
		parts = append(parts, star(a), rep(2, 3, a), cat(a), alt(a))
		for _, b := range leaves {
			parts = append(parts, cat(a, b), alt(a, b))
		}
	}
	trees := append(slices.Clone(parts), cat(), alt())
	for _, a := range parts {
		trees = append(trees, star(a), rep(0, 0, a), cat(a), alt(a))
		for _, b := range parts {
			trees = append(trees, cat(a, b), alt(a, b))
			for _, c := range leaves {
				trees = append(trees, cat(a, c, b), alt(a, c, b), star(cat(a, b)), star(alt(b, c)), alt(a, star(b), c))
			}
		}
	}
	for _, r := range trees {
		if _, ok := step(r); ere.Can(r) == ok {
			t.Fatalf("Can(%v): %v", r, ere.Can(r))
		}
		if ere.Can(r) {
			back(t, r)
		} else if ere.Show(r) != "" || ere.Least(r) != 0 {
			t.Fatalf("%v, which can't be: %q, %d", r, ere.Show(r), ere.Least(r))
		}
	}
}

// anyTree is a tree without a rule, of at most so many levels, and more or less so many parts.
func (x *numbers) anyTree(levels, many int) api.Re {
	if levels == 1 || many <= 1 {
		switch x.below(6) {
		case 0:
			return empty
		case 1:
			return begin
		case 2:
			return end
		case 3:
			return dot
		case 4:
			return of(string([]byte{byte(x.below(256))}))
		}
		r := of("")
		for range x.below(4) {
			r.Set[x.below(4)] ^= uint64(*x)
		}
		return r
	}
	switch x.below(3) {
	case 0:
		least := x.below(51)
		return rep(least, []int{-1, least, least + x.below(51-least)}[x.below(3)], x.anyTree(levels-1, many-1))
	case 1:
		least := x.below(2)
		return rep(least, -1, x.anyTree(levels-1, many-1))
	}
	r := api.Re{K: []int{api.ReCat, api.ReAlt}[x.below(2)]}
	for range 2 + x.below(3) {
		r.L = append(r.L, x.anyTree(levels-1, many/3))
	}
	return r
}

// P5.3, P5.5: there and back over trees without a rule.
func TestThereAndBack(t *testing.T) {
	x := numbers(1181783497276652981)
	fit := 0
	for range 15000 {
		r := simple(x.anyTree(1+x.below(30), 1+x.below(60)))
		if !ere.Can(r) {
			t.Fatalf("Can(%v)", r)
		}
		if s := ere.Show(r); len(s) <= 400 && openMost(s) <= 20 {
			fit++
		}
		back(t, r)
	}
	if fit < 5000 {
		t.Errorf("too few trees whose texts fit: %d", fit)
	}
	for n := range 41 {
		r := nested(n, of("a"), func(r api.Re) api.Re { return star(cat(r, begin)) })
		back(t, r)
		back(t, nested(n, of("a"), func(r api.Re) api.Re { return cat(begin, alt(r, end)) }))
	}
	for _, x := range trees() {
		back(t, x.r)
	}
}

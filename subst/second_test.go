package subst_test

import (
	"math/rand"
	"regexp"
	"slices"
	"strings"
	"testing"

	"auklet/api"
	"auklet/match"
	"auklet/samples"
	"auklet/subst"
	"auklet/text"
)

// patterns are all short patterns that there are.
func patterns() []*match.Pattern {
	var l []*match.Pattern
	for _, s := range samples.Joined(3, "a", "b", "(a|ab)", "|", "*", "{2}", "^", "$", `\\`, "&", "[^a]") {
		if p, _, e := match.New(s); e == api.OK {
			l = append(l, p)
		}
	}
	return l
}

// wantPut is what Put is to tell, by a replacer of the library: of what stands at one place the first that is named.
func wantPut(by, part string) string {
	return strings.NewReplacer(`\&`, "&", `\\`, `\`, "&", part).Replace(by)
}

// P8.1: all short texts of what means something, and what does not.
func TestPutAgainstReplacer(t *testing.T) {
	for _, by := range samples.Joined(7, "&", `\`, "x") {
		for _, part := range []string{"", "y", "&", `\`, `\&`, "&&", "x&"} {
			if s, want := subst.Put(by, part), wantPut(by, part); s != want {
				t.Fatalf("Put(%q, %q): %q, not %q", by, part, s, want)
			}
		}
	}
}

// wantReplaced is s with the parts at the places replaced, from the last one to the first.
func wantReplaced(places [][2]int, by, s string) string {
	for _, x := range slices.Backward(places) {
		s = s[:x[0]] + wantPut(by, s[x[0]:x[1]]) + s[x[1]:]
	}
	return s
}

// wantSplit is the parts of s between those at the places that are not empty.
func wantSplit(places [][2]int, s string) []string {
	if s == "" {
		return nil
	}
	edges := []int{0}
	for _, x := range places {
		if x[0] != x[1] {
			edges = append(edges, x[0], x[1])
		}
	}
	var l []string
	for two := range slices.Chunk(append(edges, len(s)), 2) {
		l = append(l, s[two[0]:two[1]])
	}
	return l
}

// hold holds what is replaced and parted by a pattern in a text against match's places.
func hold(t *testing.T, p *match.Pattern, s string, bys []string) {
	t.Helper()
	all := p.All(s)
	var first [][2]int
	if begin, end, ok := p.Find(s, 0); ok {
		first = [][2]int{{begin, end}}
	}
	for _, by := range bys {
		if got, n := subst.Sub(p, by, s); got != wantReplaced(first, by, s) || n != len(first) {
			t.Fatalf("Sub(%q, %q, %q): %q, %d, not %q", p.Text(), by, s, got, n, wantReplaced(first, by, s))
		}
		if got, n := subst.All(p, by, s); got != wantReplaced(all, by, s) || n != len(all) {
			t.Fatalf("All(%q, %q, %q): %q, %d, not %q", p.Text(), by, s, got, n, wantReplaced(all, by, s))
		}
	}
	l := subst.Split(p, s)
	if !slices.Equal(l, wantSplit(all, s)) {
		t.Fatalf("Split(%q, %q): %q, not %q", p.Text(), s, l, wantSplit(all, s))
	}
	itself(t, p, s)
}

// itself holds a pattern in a text against P8.5.
func itself(t *testing.T, p *match.Pattern, s string) {
	t.Helper()
	many := len(p.All(s))
	if got, n := subst.All(p, "&", s); got != s || n != many {
		t.Fatalf("All(%q, &, %q): %q, %d", p.Text(), s, got, n)
	}
	// # is in no text that is handed in here.
	if got, n := subst.All(p, "#x#", s); n != many || strings.Count(got, "#x#") != many {
		t.Fatalf("All(%q, #x#, %q): %q, %d, not %d", p.Text(), s, got, n, many)
	}
}

// P8.1, P8.2, P8.5: all short patterns in all short texts.
func TestAgainstMatch(t *testing.T) {
	bys := []string{"", "&", "x", "<&>", `\&`, `\\&`, "a", "&&", `b\`}
	texts := append(samples.Joined(3, "a", "b", "&"), samples.Joined(2, "a", "é", `\`)...)
	for _, p := range patterns() {
		for _, s := range texts {
			hold(t, p, s, bys)
		}
	}
}

// P8.1, P8.2, P8.5: patterns, texts and what is put of any bytes.
func TestOfAnyBytes(t *testing.T) {
	numbers := rand.New(rand.NewSource(8))
	of := func(letters string, most int) string { return samples.Bytes(numbers.Intn, letters, most) }
	many := 0
	for range 20000 {
		p, _, e := match.New(of("a\xc3\xa9\x00\xff.*|()[]^$-\\{}2,&", 6))
		if e != api.OK {
			continue
		}
		for range 4 {
			hold(t, p, of("a\xc3\xa9\x00\xff*&\\", 9), []string{of("a\xc3\xa9\x00\xff&\\&\\", 5)})
		}
		many++
	}
	if many < 2000 {
		t.Error("too few patterns:", many)
	}
}

// P8.1: what is replaced is what the library of Go replaces, where that reads a pattern the same way.
func TestAgainstLibrary(t *testing.T) {
	for _, p := range patterns() {
		library, wrong := regexp.Compile(p.Text())
		if wrong != nil {
			continue
		}
		library.Longest()
		for _, s := range samples.Joined(4, "a", "b") {
			for _, by := range []string{"", "x", "<&>", `\&&`} {
				want := library.ReplaceAllStringFunc(s, func(part string) string { return wantPut(by, part) })
				if got, n := subst.All(p, by, s); got != want || n != len(library.FindAllString(s, -1)) {
					t.Fatalf("All(%q, %q, %q): %q, %d, not %q", p.Text(), by, s, got, n, want)
				}
			}
		}
	}
}

// wantAt is what At is to tell of a separator that is no pattern, read byte by byte.
func wantAt(s, sep string) []string {
	switch {
	case s == "":
		return nil
	case sep == " ":
		return text.Words(s)
	case sep == "":
		return text.Chars(s)
	}
	l := []string{""}
	for i := range len(s) {
		if s[i] == sep[0] {
			l = append(l, "")
		} else {
			l[len(l)-1] += s[i : i+1]
		}
	}
	return l
}

// P8.3, P8.4: each byte as a separator; joined by it, but for the blank and \, the parts are the text.
func TestEachByte(t *testing.T) {
	for i := range 256 {
		sep := string([]byte{byte(i)})
		for _, s := range samples.Joined(4, "a", sep, "é", " ") {
			l, place, e := subst.At(s, sep)
			if sep == `\` {
				if len(l) != 0 || place != 1 || e != api.ErrShort {
					t.Fatalf("At(%q, %q): %q, %d, %v", s, sep, l, place, e)
				}
				continue
			}
			if !slices.Equal(l, wantAt(s, sep)) || place != 0 || e != api.OK {
				t.Fatalf("At(%q, %q): %q, %d, %v, not %q", s, sep, l, place, e, wantAt(s, sep))
			}
			if sep != " " && subst.Join(l, sep) != s {
				t.Fatalf("At(%q, %q), joined: %q", s, sep, subst.Join(l, sep))
			}
		}
	}
}

// P8.3: all short separators: a pattern's, where they are of two bytes or more.
func TestEachSeparator(t *testing.T) {
	texts := samples.Joined(4, "a", " ", "(", "é")
	for _, sep := range samples.Joined(3, "a", " ", "(", ")", "*", "[", "]", "|", `\`, "é", "^") {
		p, place, e := match.New(sep)
		for _, s := range texts {
			var want []string
			wantPlace, wantE := 0, api.OK
			switch {
			case len(sep) < 2 && sep != `\`:
				want = wantAt(s, sep)
			case e != api.OK:
				wantPlace, wantE = place, e
			default:
				want = subst.Split(p, s)
			}
			if l, at, told := subst.At(s, sep); !slices.Equal(l, want) || at != wantPlace || told != wantE {
				t.Fatalf("At(%q, %q): %q, %d, %v, not %q, %d, %v", s, sep, l, at, told, want, wantPlace, wantE)
			}
		}
	}
}

// P8.2: of a text that is not empty there is one part more than are found that are not empty.
func TestSplitMany(t *testing.T) {
	for _, p := range patterns() {
		for _, s := range samples.Joined(4, "a", "b", "&")[1:] {
			full := 0
			for _, x := range p.All(s) {
				full += min(1, x[1]-x[0])
			}
			if l := subst.Split(p, s); len(l) != full+1 {
				t.Fatalf("Split(%q, %q): %q, not %d", p.Text(), s, l, full+1)
			}
		}
	}
}

// P8.3: Join of texts of all sorts is what the library of Go joins.
func TestJoinAgainstLibrary(t *testing.T) {
	for _, sep := range []string{"", "-", "&", `\`, "é", "--"} {
		for _, s := range samples.Joined(5, "a|", "|", "é|", "&|", `\|`) {
			l := strings.Split(s, "|")
			if got := subst.Join(l, sep); got != strings.Join(l, sep) {
				t.Fatalf("Join(%q, %q): %q", l, sep, got)
			}
		}
	}
}

package fields_test

import (
	"fmt"
	"math/rand"
	"regexp"
	"slices"
	"strings"
	"testing"

	"auklet/api"
	"auklet/cell"
	"auklet/fields"
	"auklet/match"
	"auklet/samples"
	"auklet/subst"
)

// plain is a record as the document tells it, word by word: all of it is made anew with each call.
type plain struct {
	text string
	l    []string
}

func (p *plain) take(s, fs string) api.Errno {
	l, _, e := subst.At(s, fs)
	switch {
	case e != api.OK:
		return e
	case len(l) > 100:
		return api.ErrLong
	}
	p.text, p.l = s, l
	return api.OK
}

func (p *plain) set(i int, s, ofs string) api.Errno {
	if i < 1 || i > 100 {
		return api.ErrField
	}
	for len(p.l) < i {
		p.l = append(p.l, "")
	}
	p.l[i-1] = s
	p.text = strings.Join(p.l, ofs)
	return api.OK
}

func (p *plain) resize(n int, ofs string) api.Errno {
	if n < 0 || n > 100 {
		return api.ErrField
	}
	l := slices.Concat(p.l, make([]string, 100))[:n]
	p.text, p.l = strings.Join(l, ofs), l
	return api.OK
}

func (p *plain) get(i int) (api.Cell, api.Errno) {
	switch {
	case i < 0 || i > 100:
		return api.Cell{}, api.ErrField
	case i == 0:
		return cell.Input(p.text), api.OK
	case i <= len(p.l):
		return cell.Input(p.l[i-1]), api.OK
	}
	return api.Cell{}, api.OK
}

// pair is a record, and the plain one that goes with it.
type pair struct {
	r *fields.Rec
	p *plain
}

// step makes one call of both.
func (x pair) step(t *testing.T, numbers *rand.Rand) {
	t.Helper()
	pick := func(l ...string) string { return l[numbers.Intn(len(l))] }
	i := numbers.Intn(8) - 1
	if numbers.Intn(6) == 0 {
		i = 97 + numbers.Intn(6)
	}
	s, sep := pick("", "a", "7", " 1.5 ", "a b", "é"), pick(" ", "", "-", ", ", "\xff")
	var got, want api.Errno
	switch numbers.Intn(6) {
	case 0:
		s = pick("", "a b", " 1 2 ", "a:b::", "a1b22c", strings.Repeat(":", 99), strings.Repeat(":", 100), strings.Repeat("a ", 101))
		sep = pick(" ", "", ":", "[0-9]+", `\`, "a(", ":+")
		got, want = x.r.Take(s, sep), x.p.take(s, sep)
	case 1, 2:
		got, want = x.r.Resize(i, sep), x.p.resize(i, sep)
	default:
		got, want = x.r.Set(i, s, sep), x.p.set(i, s, sep)
	}
	if got != want {
		t.Fatalf("%d, %q, %q: %v, not %v", i, s, sep, got, want)
	}
}

// same holds both against one another; not all is asked each time, as asking may make what is told later.
func (x pair) same(t *testing.T, numbers *rand.Rand) {
	t.Helper()
	if numbers.Intn(3) > 0 && x.r.Text() != x.p.text {
		t.Fatalf("Text: %q, not %q", x.r.Text(), x.p.text)
	}
	if numbers.Intn(3) == 0 {
		return
	}
	if x.r.Many() != len(x.p.l) {
		t.Fatalf("Many: %d, not %d", x.r.Many(), len(x.p.l))
	}
	for i := -2; i < 104; i++ {
		c, e := x.r.Get(i)
		if wantC, wantE := x.p.get(i); c != wantC || e != wantE {
			t.Fatalf("Get(%d): %v, %v, not %v, %v", i, c, e, wantC, wantE)
		}
	}
}

// P9.1, P9.2, P9.5: calls of all sorts, one behind the other.
func TestAgainstPlain(t *testing.T) {
	numbers := rand.New(rand.NewSource(9))
	for range 400 {
		x := pair{fields.New(), &plain{}}
		for range 60 {
			x.step(t, numbers)
			x.same(t, numbers)
		}
	}
}

// P9.5: behind Set and Resize the text is the fields, joined.
func TestJoined(t *testing.T) {
	for _, s := range samples.Joined(4, "a", ":", " ", "é") {
		for _, fs := range []string{" ", "", ":", "[:a]"} {
			for _, ofs := range []string{"", " ", ":", "--"} {
				for i := range 6 {
					r := taken(t, s, fs)
					r.Resize(i, ofs)
					if want := strings.Join(listed(t, r), ofs); r.Text() != want || r.Many() != i {
						t.Fatalf("Resize(%d, %q) of %q: %q, not %q", i, ofs, s, r.Text(), want)
					}
					r = taken(t, s, fs)
					r.Set(i+1, "b", ofs)
					if want := strings.Join(listed(t, r), ofs); r.Text() != want || r.Many() < i+1 {
						t.Fatalf("Set(%d, b, %q) of %q: %q, not %q", i+1, ofs, s, r.Text(), want)
					}
				}
			}
		}
	}
}

// ended is where in s, from the first place on, a record ends, and the next one begins, tried place by place: for each place where it may end the longest end of what is ended.
func ended(s string, longest func(at int) int) (int, int) {
	for i := range len(s) {
		if end := longest(i); end > i {
			return i, end
		}
	}
	return len(s), len(s)
}

// wantNext is what Next is to tell, of an rs that is a pattern or one byte.
func wantNext(p *match.Pattern, s string, at int, rs string) next {
	if at < 0 || at >= len(s) {
		return next{}
	}
	rest := s[at:]
	begin, end := ended(rest, func(i int) int {
		if p == nil {
			if rest[i] == rs[0] {
				return i + 1
			}
			return -1
		}
		if from, to, ok := p.Find(rest, i); ok && from == i {
			return to
		}
		return -1
	})
	return next{rest[:begin], at + end, true, api.OK}
}

// wantParagraph is what Next is to tell of the empty rs, by a pattern of the library.
func wantParagraph(s string, at int) next {
	if at < 0 || at >= len(s) {
		return next{}
	}
	rest := s[at:]
	l := regexp.MustCompile(`^\n*((?:[^\n]\n?)*[^\n])(?:\n\z|\z|\n\n+)`).FindStringSubmatchIndex(rest)
	if l == nil {
		return next{"", len(s), false, api.OK}
	}
	return next{rest[l[2]:l[3]], at + l[1], true, api.OK}
}

// P9.3: all short texts, from all places, by all sorts of rs.
func TestNextAgainstSecond(t *testing.T) {
	texts := append(samples.Joined(6, "a", "\n"), samples.Joined(4, "a", "b", "\n", `\`)...)
	for _, rs := range append(samples.Joined(3, "a", "b", "\n", "*", "^", "|", "$", `\`, "(", ")"), "(a|ab)", "(a|ab)(b|ba)*", "[^a]+", "(ab)*", "a{2}", "\n+$", "^\n+") {
		p, _, e := match.New(rs)
		for _, s := range texts {
			for at := -1; at <= len(s)+1; at++ {
				var want next
				inside := at >= 0 && at < len(s)
				switch {
				case rs == "":
					want = wantParagraph(s, at)
				case len(rs) == 1 && rs != `\`:
					want = wantNext(nil, s, at, rs)
				case e == api.OK:
					want = wantNext(p, s, at, rs)
				case inside:
					want = next{e: e}
				}
				record, place, ok, told := fields.Next(s, at, rs)
				if got := (next{record, place, ok, told}); got != want {
					t.Fatalf("Next(%q, %d, %q): %v, not %v", s, at, rs, got, want)
				}
			}
		}
	}
}

// records are all records of a text, one behind the other.
func records(t *testing.T, s, rs string) []string {
	t.Helper()
	var l []string
	at := 0
	for {
		record, place, ok, e := fields.Next(s, at, rs)
		if e != api.OK {
			t.Fatalf("Next(%q, %d, %q): %v", s, at, rs, e)
		}
		if !ok {
			return l
		}
		if place <= at {
			t.Fatalf("Next(%q, %d, %q) goes on at %d", s, at, rs, place)
		}
		l, at = append(l, record), place
	}
}

// P9.4: the records by each byte, but \, are the text, with it between, and behind the last one if the text ends with it.
func TestAllOfIt(t *testing.T) {
	for i := range 256 {
		rs := string([]byte{byte(i)})
		if rs == `\` {
			continue
		}
		for _, s := range samples.Joined(5, "a", rs, "é") {
			got := strings.Join(records(t, s, rs), rs)
			if strings.HasSuffix(s, rs) {
				got += rs
			}
			if got != s {
				t.Fatalf("the records of %q by %q: %q", s, rs, got)
			}
		}
	}
}

// P9.3: paragraphs hold no empty line, and are not empty; records by a pattern get on, too.
func TestGetsOn(t *testing.T) {
	for _, s := range samples.Joined(8, "a", "\n") {
		var want []string
		for _, x := range regexp.MustCompile(`\n\n+`).Split(strings.Trim(s, "\n"), -1) {
			if x != "" {
				want = append(want, x)
			}
		}
		if got := records(t, s, ""); !slices.Equal(got, want) {
			t.Fatalf("the paragraphs of %q: %q, not %q", s, got, want)
		}
		for _, rs := range []string{"a*", "^a", "a$", "()", "^", "$a", "\n\n", "a|\n+"} {
			if l := records(t, s, rs); len(l) > len(s) || len(l) == 0 && s != "" {
				t.Fatalf("the records of %q by %q: %q", s, rs, l)
			}
		}
	}
}

// P9.1, P9.3: any bytes.
func TestOfAnyBytes(t *testing.T) {
	numbers := rand.New(rand.NewSource(9))
	of := func(letters string, most int) string { return samples.Bytes(numbers.Intn, letters, most) }
	for range 30000 {
		rs, s := of("a\xc3\xa9\x00\xff\n.*|()[]^$-\\{}2, ", 5), of("a\xc3\xa9\x00\xff\n*\\ ,", 9)
		at := numbers.Intn(len(s) + 2)
		p, _, e := match.New(rs)
		r := fields.New()
		switch got := r.Take(s, rs); {
		case len(rs) == 1 && rs != `\`:
			p, e = nil, api.OK
			fallthrough
		case e == api.OK:
			l, _, _ := subst.At(s, rs)
			holds(t, fmt.Sprintf("Take(%q, %q): %v", s, rs, got), r, s, l)
		case got != e:
			t.Fatalf("Take(%q, %q): %v, not %v", s, rs, got, e)
		}
		want := next{e: e}
		switch {
		case at >= len(s):
			want = next{}
		case rs == "":
			want = wantParagraph(s, at)
		case e == api.OK:
			want = wantNext(p, s, at, rs)
		}
		record, place, ok, told := fields.Next(s, at, rs)
		if got := (next{record, place, ok, told}); got != want {
			t.Fatalf("Next(%q, %d, %q): %v, not %v", s, at, rs, got, want)
		}
	}
}

package streams_test

import (
	"math/rand"
	"regexp"
	"slices"
	"strings"
	"testing"

	"auklet/api"
	"auklet/match"
	"auklet/samples"
	"auklet/streams"
)

// plain is what a run reads and writes as the document tells it: of what is read, what is left of it; of what is written, all calls that were done, of which all is made anew each time.
type plain struct {
	given []api.File
	main  string
	left  map[string]*string
	done  []call
}

// call is one of Write that was done, or, without a name, of Print.
type call struct {
	name, text string
	more       bool
}

func newPlain(main string, files []api.File) *plain {
	p := &plain{given: files, main: main, left: map[string]*string{}}
	for _, f := range slices.Backward(files) {
		left := f.S
		p.left[f.Name] = &left
	}
	return p
}

// cut is the next record, which is taken off what is left, and whether there is one.
func cut(left *string, rs string) (string, bool, api.Errno) {
	if *left == "" {
		return "", false, api.OK
	}
	switch {
	case rs == "":
		*left = strings.TrimLeft(*left, "\n")
		if *left == "" {
			return "", false, api.OK
		}
		parts := regexp.MustCompile(`\n\n+`).Split(*left, 2)
		record, rest := strings.TrimSuffix(parts[0], "\n"), ""
		if len(parts) > 1 {
			rest = parts[1]
		}
		*left = rest
		return record, true, api.OK
	case len(rs) == 1 && rs != `\`:
		record, rest, _ := strings.Cut(*left, rs)
		*left = rest
		return record, true, api.OK
	}
	p, _, e := match.New(rs)
	if e != api.OK {
		return "", false, e
	}
	for _, x := range p.All(*left) {
		if x[0] < x[1] {
			record, rest := (*left)[:x[0]], (*left)[x[1]:]
			*left = rest
			return record, true, api.OK
		}
	}
	record := *left
	*left = ""
	return record, true, api.OK
}

func (p *plain) read(name, rs string) (string, int, api.Errno) {
	left := p.left[name]
	if left == nil {
		return "", -1, api.OK
	}
	record, ok, e := cut(left, rs)
	if ok {
		return record, 1, e
	}
	return "", 0, e
}

// made is what was printed, and the files, by calls one behind the other.
func (p *plain) made(calls []call) (string, []api.File) {
	out := ""
	var l []api.File
	for _, x := range calls {
		if x.name == "" {
			out += x.text
			continue
		}
		at := slices.IndexFunc(l, func(f api.File) bool { return f.Name == x.name })
		if at < 0 {
			at = len(l)
			l = append(l, api.File{Name: x.name})
			if given := slices.IndexFunc(p.given, func(f api.File) bool { return f.Name == x.name }); x.more && given >= 0 {
				l[at].S = p.given[given].S
			}
		}
		l[at].S += x.text
	}
	return out, l
}

// do does a call, if nothing is too much of it.
func (p *plain) do(x call) api.Errno {
	calls := append(slices.Clone(p.done), x)
	out, l := p.made(calls)
	all := len(out)
	for _, f := range l {
		all += len(f.S)
	}
	if all > 65536 || len(l) > 8 {
		return api.ErrFull
	}
	p.done = calls
	return api.OK
}

func (p *plain) write(name, text string, more bool) api.Errno {
	if name == "" {
		return api.ErrArg
	}
	return p.do(call{name, text, more})
}

// room is how many bytes may still be written.
func (p *plain) room() int {
	out, l := p.made(p.done)
	room := 65536 - len(out)
	for _, f := range l {
		room -= len(f.S)
	}
	return room
}

// pair is what a run reads and writes, the plain one that goes with it, and what picks their calls.
type pair struct {
	s    *streams.Streams
	p    *plain
	pick func(n int) int
}

func newPair(pick func(n int) int) pair {
	text := func() string { return samples.Bytes(pick, "a\n\n;1\xff", 12) }
	var files []api.File
	for range pick(6) {
		f := api.File{Name: one(pick, "f", "g", "h", "", "1"), S: text()}
		if pick(5) == 0 {
			f.S = strings.Repeat(one(pick, "a\n", "\n", "x"), pick(40000))
		}
		files = append(files, f)
	}
	main := text()
	return pair{streams.New(main, slices.Clone(files)), newPlain(main, files), pick}
}

// one is one of these.
func one(pick func(n int) int, l ...string) string { return l[pick(len(l))] }

// some is a text to be written: often a short one, else one that just goes into what is left, or does not.
func (x pair) some() string {
	if x.pick(4) > 0 {
		return one(x.pick, "", "a", "b\n", "\xff\x00", "xyz")
	}
	return strings.Repeat("y", max(0, []int{x.p.room(), x.p.room() + 1, x.p.room() - 1, x.p.room() / 2, 70000}[x.pick(5)]))
}

// reads makes one call that reads of both.
func (x pair) reads(t *testing.T) {
	t.Helper()
	rs := one(x.pick, "\n", "\n", "", "", ";", "[1;]+", "\n+", "^a", "x*", "a$|\n", `\`, "a(", "**", "\xff")
	if x.pick(2) == 0 {
		record, ok, e := x.s.Main(rs)
		if want, there, wantE := cut(&x.p.main, rs); record != want || ok != there || e != wantE {
			t.Fatalf("Main(%q): %q, %v, %v, not %q, %v, %v", rs, record, ok, e, want, there, wantE)
		}
		return
	}
	name := one(x.pick, "f", "g", "h", "", "1", "none")
	record, n, e := x.s.Read(name, rs)
	if want, m, wantE := x.p.read(name, rs); record != want || n != m || e != wantE {
		t.Fatalf("Read(%q, %q): %q, %d, %v, not %q, %d, %v", name, rs, record, n, e, want, m, wantE)
	}
}

// writes makes one call that writes of both.
func (x pair) writes(t *testing.T) {
	t.Helper()
	text := x.some()
	if x.pick(3) == 0 {
		if e, want := x.s.Print(text), x.p.do(call{text: text}); e != want {
			t.Fatalf("Print of %d bytes: %v, not %v", len(text), e, want)
		}
		return
	}
	name, more := one(x.pick, "f", "g", "h", "", "1", "2", "3", "4", "5", "6", "7", "\xff"), x.pick(2) == 0
	if e, want := x.s.Write(name, text, more), x.p.write(name, text, more); e != want {
		t.Fatalf("Write(%q, %d bytes, %v): %v, not %v", name, len(text), more, e, want)
	}
}

// same holds what was written of both against one another.
func (x pair) same(t *testing.T) {
	t.Helper()
	out, l := x.p.made(x.p.done)
	if got := x.s.Out(); got != out {
		t.Fatalf("Out: %.40q, not %.40q", got, out)
	}
	if got := x.s.Files(); !slices.Equal(got, l) {
		t.Fatalf("Files: %.80q, not %.80q", got, l)
	}
}

// P17.1 to P17.5: calls of all sorts, one behind the other.
func TestAgainstPlain(t *testing.T) {
	pick := rand.New(rand.NewSource(17)).Intn
	for range 2000 {
		x := newPair(pick)
		for range 30 {
			if pick(2) == 0 {
				x.reads(t)
			} else {
				x.writes(t)
			}
			if pick(3) == 0 {
				x.same(t)
			}
		}
		x.same(t)
	}
}

// P17.1, P17.4: all short texts, by each rs alone, and by two in turn.
func TestReadAgainstSecond(t *testing.T) {
	seps := []string{"\n", "", "a", "\n\n", "a*", "^\n", "\n$", "[a\n]", `\`, "a(", "(a|\n)b"}
	for _, text := range append(samples.Joined(6, "a", "\n"), samples.Joined(4, "a", "b", "\n")...) {
		for _, first := range seps {
			for _, second := range seps {
				left, other := text, text
				s := streams.New(text, []api.File{{Name: "f", S: text}})
				for i := range len(text) + 3 {
					rs := first
					if i%2 > 0 {
						rs = second
					}
					record, ok, e := s.Main(rs)
					if want, there, wantE := cut(&left, rs); record != want || ok != there || e != wantE {
						t.Fatalf("%q by %q, %q, Main %d: %q, %v, %v, not %q, %v, %v", text, first, second, i, record, ok, e, want, there, wantE)
					}
					record, n, e := s.Read("f", rs)
					if want, there, wantE := cut(&other, rs); record != want || (n == 1) != there || n < 0 || e != wantE {
						t.Fatalf("%q by %q, %q, Read %d: %q, %d, %v, not %q, %v, %v", text, first, second, i, record, n, e, want, there, wantE)
					}
				}
			}
		}
	}
}

// P17.5: what is read is the same whatever is written between, and what is written whatever is read.
func TestApartAgain(t *testing.T) {
	numbers := rand.New(rand.NewSource(5))
	for range 300 {
		seed := numbers.Int63()
		both, reader, writer := newPair(rand.New(rand.NewSource(seed)).Intn), newPair(rand.New(rand.NewSource(seed)).Intn), newPair(rand.New(rand.NewSource(seed)).Intn)
		for range 20 {
			name, text, more, rs := one(numbers.Intn, "f", "g", "h", "1"), one(numbers.Intn, "", "a\n", "1;\n\n"), numbers.Intn(2) == 0, one(numbers.Intn, "\n", "", ";", "a+", "a(")
			if e, want := both.s.Write(name, text, more), writer.s.Write(name, text, more); e != want {
				t.Fatalf("Write(%q, %q, %v): %v, not %v", name, text, more, e, want)
			}
			if e, want := both.s.Print(text), writer.s.Print(text); e != want {
				t.Fatalf("Print(%q): %v, not %v", text, e, want)
			}
			record, n, e := both.s.Read(name, rs)
			if want, m, wantE := reader.s.Read(name, rs); record != want || n != m || e != wantE {
				t.Fatalf("Read(%q, %q): %q, %d, %v, not %q, %d, %v", name, rs, record, n, e, want, m, wantE)
			}
			record, ok, e := both.s.Main(rs)
			if want, there, wantE := reader.s.Main(rs); record != want || ok != there || e != wantE {
				t.Fatalf("Main(%q): %q, %v, %v, not %q, %v, %v", rs, record, ok, e, want, there, wantE)
			}
		}
		if both.s.Out() != writer.s.Out() || !slices.Equal(both.s.Files(), writer.s.Files()) {
			t.Fatalf("written: %q, %q, not %q, %q", both.s.Out(), both.s.Files(), writer.s.Out(), writer.s.Files())
		}
	}
}

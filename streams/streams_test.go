package streams_test

import (
	"fmt"
	"slices"
	"strconv"
	"strings"
	"testing"
	"time"

	"auklet/api"
	"auklet/fields"
	"auklet/samples"
	"auklet/streams"
)

// most is how many bytes may be written in all.
const most = 65536

// step is a call of Main or Read, and what it is to tell: n is 1, if there is a record, 0 or -1, if there is none.
type step struct {
	rs, record string
	n          int
	e          api.Errno
}

// line, para, none are steps by a line feed, by paragraphs, and where nothing is left.
func line(record string) step { return step{"\n", record, 1, api.OK} }
func para(record string) step { return step{"", record, 1, api.OK} }
func none(rs string) step     { return step{rs, "", 0, api.OK} }

// reading makes calls of Main one behind the other, then the same ones of a file.
func reading(t *testing.T, text string, steps ...step) {
	t.Helper()
	s := streams.New(text, []api.File{{Name: "f", S: text}, {Name: "g", S: text}})
	for i, x := range steps {
		if record, ok, e := s.Main(x.rs); record != x.record || ok != (x.n == 1) || e != x.e {
			t.Errorf("%.40q, Main %d by %.20q: %.40q, %v, %v, not %v", text, i, x.rs, record, ok, e, x)
		}
	}
	for _, name := range []string{"f", "g"} {
		for i, x := range steps {
			if record, n, e := s.Read(name, x.rs); record != x.record || n != x.n || e != x.e {
				t.Errorf("%.40q, Read %d of %s by %.20q: %.40q, %v, %v, not %v", text, i, name, x.rs, record, n, e, x)
			}
		}
	}
}

// P17.1: records by one byte, one behind the other, and nothing behind the last one, however often it is asked for.
func TestByByte(t *testing.T) {
	end := none("\n")
	reading(t, "", end, end, none(""), none("a+"), none(" "))
	reading(t, "a", line("a"), end, end, none(""), end)
	reading(t, "a\n", line("a"), end, end)
	reading(t, "a\nb", line("a"), line("b"), end, end, end)
	reading(t, "a\n\nb\n\n", line("a"), line(""), line("b"), line(""), end, end)
	reading(t, "\n", line(""), end, end)
	reading(t, "\n\n\n", line(""), line(""), line(""), end)
	reading(t, "é\xff\x00\n\xc3", line("é\xff\x00"), line("\xc3"), end)
	reading(t, "a.b(c", step{".", "a", 1, 0}, step{"(", "b", 1, 0}, step{"c", "", 1, 0}, none("."))
}

// P17.1: paragraphs; line feeds that are passed over are read, also where no record is left.
func TestByParagraph(t *testing.T) {
	end := none("")
	reading(t, "\n\na\nb\n\n\nc\n", para("a\nb"), para("c"), end, end)
	reading(t, "\n", end, none("\n"), end)
	reading(t, "\n\n\n", end, none("\n"), none("x"), none("\n+"), end)
	reading(t, "\n\n\n", line(""), end, none("\n"))
	reading(t, "a\n\n\n\n", line("a"), end, none("\n"), none("\n"))
	reading(t, "a\n\n\n\nb", line("a"), para("b"), none("\n"))
	reading(t, "a\n\n\n\nb\nc\n", para("a"), line("b"), line("c"), none("\n"))
	reading(t, "a\n\n\n\n", para("a"), none("\n"), end)
	reading(t, "a;\n\n", step{";", "a", 1, 0}, end, step{";", "", 0, 0}, none("\n"))
}

// P17.1: records by patterns; ^ is the beginning of what is left.
func TestByPattern(t *testing.T) {
	num, begin := "[0-9]+", "^a"
	reading(t, "a1b22c", step{num, "a", 1, 0}, step{num, "b", 1, 0}, step{num, "c", 1, 0}, none(num), none(num))
	reading(t, "1a1", step{num, "", 1, 0}, step{num, "a", 1, 0}, none(num))
	reading(t, "aaba", step{begin, "", 1, 0}, step{begin, "", 1, 0}, step{begin, "ba", 1, 0}, none(begin))
	reading(t, "abc", step{"x*", "abc", 1, 0}, none("x*"))
	reading(t, "a\n \nb\nc;d", line("a"), step{"[ \n]+", "", 1, 0}, step{"[b\n]+", "", 1, 0}, step{"[;]", "c", 1, 0}, line("d"), none("\n"), none(num))
	reading(t, `a\b\c`, step{`\\`, "a", 1, 0}, step{`\`, "", 0, api.ErrShort}, step{`\\`, "b", 1, 0}, line("c"), none(`\\`))
}

// P17.1: of what is no pattern its error, and nothing was read then; where nothing is left it is not asked.
func TestNoPattern(t *testing.T) {
	short, closed, repeat, class := step{"a(", "", 0, api.ErrShort}, step{"ab)", "", 0, api.ErrForm}, step{"**", "", 0, api.ErrRepeat}, step{"[[:x:]]", "", 0, api.ErrClass}
	long, states := step{strings.Repeat("a", 401), "", 0, api.ErrLong}, step{"(a{50}){10}", "", 0, api.ErrLong}
	reading(t, "a\nb\n", short, line("a"), closed, repeat, short, line("b"), none("\n"), none("a("), none("**"), none(long.rs))
	reading(t, "a\nb", line("a"), class, long, states, step{`\`, "", 0, api.ErrShort}, line("b"), none(`\`), none("[[:x:]]"))
	reading(t, "\n\na", short, para("a"), none("a("))
	reading(t, "\n\n", short, line(""), long, line(""), none("a("))
	reading(t, "\n\n", short, none(""), none("a("))
	reading(t, "", none("a("), none(`\`), none("**"), none(states.rs))
	for _, x := range []step{short, closed, repeat, class, long, states} {
		if _, _, _, e := fields.Next("a", 0, x.rs); e != x.e {
			t.Errorf("fields.Next by %.20q: %v, not %v", x.rs, e, x.e)
		}
	}
}

// read holds one call of Read against what it is to tell.
func read(t *testing.T, s *streams.Streams, name, rs, record string, n int, e api.Errno) {
	t.Helper()
	if got, m, told := s.Read(name, rs); got != record || m != n || told != e {
		t.Errorf("Read(%q, %.20q): %q, %d, %v, not %q, %d, %v", name, rs, got, m, told, record, n, e)
	}
}

// mainIs holds one call of Main against what it is to tell.
func mainIs(t *testing.T, s *streams.Streams, rs, record string, is bool, e api.Errno) {
	t.Helper()
	if got, ok, told := s.Main(rs); got != record || ok != is || told != e {
		t.Errorf("Main(%.20q): %q, %v, %v, not %q, %v, %v", rs, got, ok, told, record, is, e)
	}
}

// P17.1: each file goes on by itself, and of one name the first one counts.
func TestFilesByThemselves(t *testing.T) {
	s := streams.New("1\n2\n3", []api.File{{Name: "f", S: "a\nb"}, {Name: "empty"}, {Name: "f", S: "x\ny\nz"}, {Name: "g", S: "c\n\nd"}, {Name: "empty", S: "full"}, {Name: "F", S: "upper"}, {Name: "", S: "of no name"}, {Name: "a\xff\n b", S: "any"}})
	read(t, s, "f", "\n", "a", 1, api.OK)
	mainIs(t, s, "\n", "1", true, api.OK)
	read(t, s, "g", "\n", "c", 1, api.OK)
	read(t, s, "f", "\n", "b", 1, api.OK)
	mainIs(t, s, "(", "2\n3", true, api.OK)
	mainIs(t, s, "\n", "", false, api.OK)
	read(t, s, "f", "\n", "", 0, api.OK)
	read(t, s, "f", "", "", 0, api.OK)
	read(t, s, "g", "", "d", 1, api.OK)
	read(t, s, "g", "", "", 0, api.OK)
	read(t, s, "empty", "\n", "", 0, api.OK)
	read(t, s, "empty", "\n", "", 0, api.OK)
	read(t, s, "F", "\n", "upper", 1, api.OK)
	read(t, s, "", " ", "of", 1, api.OK)
	read(t, s, "", " ", "no", 1, api.OK)
	read(t, s, "a\xff\n b", "n", "a", 1, api.OK)
	read(t, s, "a\xff\n b", "n", "y", 1, api.OK)
	read(t, s, "f", "\n", "", 0, api.OK)
}

// P17.1: files that there are none of; the error of an rs is that of one that there is.
func TestNoSuchFile(t *testing.T) {
	s := streams.New("main", []api.File{{Name: "f", S: "a"}})
	for range 2 {
		for _, name := range []string{"", "g", "F", "f ", " f", "ff", "main", "f\x00", "\xff", strings.Repeat("f", 1<<20)} {
			for _, rs := range []string{"\n", "", "a+", "a(", `\`, "**"} {
				read(t, s, name, rs, "", -1, api.OK)
			}
		}
	}
	read(t, s, "f", "a(", "", 0, api.ErrShort)
	read(t, s, "f", "\n", "a", 1, api.OK)
	read(t, s, "f", "a(", "", 0, api.OK)
	for _, files := range [][]api.File{nil, {}} {
		s = streams.New("", files)
		read(t, s, "f", "\n", "", -1, api.OK)
		read(t, s, "", "\n", "", -1, api.OK)
	}
}

// has holds what was printed, and the files, a name and what it has one behind the other, against what they are to be.
func has(t *testing.T, s *streams.Streams, what, out string, files ...string) {
	t.Helper()
	if got := s.Out(); got != out {
		t.Errorf("%s: Out: %d bytes, %.40q, not %d, %.40q", what, len(got), got, len(out), out)
	}
	var got []string
	for _, f := range s.Files() {
		got = append(got, f.Name, f.S)
	}
	if !slices.Equal(got, files) {
		t.Errorf("%s: Files: %.60q, not %.60q", what, got, files)
	}
}

// write, refused write to a file, or print where name is "-", and hold what is told against OK, or ErrFull.
func write(t *testing.T, s *streams.Streams, name, text string, more bool) {
	t.Helper()
	writes(t, s, name, text, more, api.OK)
}

func refused(t *testing.T, s *streams.Streams, name, text string, more bool) {
	t.Helper()
	writes(t, s, name, text, more, api.ErrFull)
}

func writes(t *testing.T, s *streams.Streams, name, text string, more bool, want api.Errno) {
	t.Helper()
	call := func() api.Errno { return s.Write(name, text, more) }
	if name == "-" {
		call = func() api.Errno { return s.Print(text) }
	}
	if e := call(); e != want {
		t.Errorf("%.20q, %d bytes, %.20q, %v: %v, not %v", name, len(text), text, more, e, want)
	}
}

// P17.1, P17.3: of a new one nothing was written.
func TestNew(t *testing.T) {
	has(t, streams.New("", nil), "nothing", "")
	has(t, streams.New("main\n", []api.File{{Name: "f", S: "a"}, {Name: "f", S: "b"}}), "much to read", "")
}

// P17.2, P17.3: what is printed stands one behind the other.
func TestPrint(t *testing.T) {
	s := streams.New("main", nil)
	out := ""
	for _, x := range []string{"a", "", "b\n", "\x00é\xff", "", "a"} {
		write(t, s, "-", x, false)
		out += x
		has(t, s, "printed", out)
	}
}

// P17.2, P17.3: files that are written to, as they first were, with what they have.
func TestWrite(t *testing.T) {
	s := streams.New("", nil)
	write(t, s, "f", "a", false)
	write(t, s, "f", "b", false)
	has(t, s, "example 1", "", "f", "ab")
	write(t, s, "b", "", false)
	has(t, s, "an empty file", "", "f", "ab", "b", "")
	write(t, s, "a", "1", true)
	write(t, s, "-", "out", false)
	write(t, s, "f", "c", true)
	write(t, s, "b", "2", true)
	write(t, s, "a", "2", false)
	has(t, s, "with more, nothing given", "out", "f", "abc", "b", "2", "a", "12")
	for _, name := range []string{" ", "F", "f ", "\x00", "\xff", strings.Repeat("f", 100)} {
		s := streams.New("", nil)
		write(t, s, "f", "1", false)
		write(t, s, name, "2", false)
		write(t, s, "f", "3", false)
		has(t, s, "names are told apart", "", "f", "13", name, "2")
	}
}

// P17.2: with more a file that is written to first has what was given; of one name the first one counts. Only the first time more tells anything.
func TestMore(t *testing.T) {
	files := []api.File{{Name: "f", S: "given\n"}, {Name: "g", S: "old"}, {Name: "f", S: "second"}, {Name: "e"}, {Name: "e", S: "full"}}
	s := streams.New("main", files)
	write(t, s, "f", "a", true)
	has(t, s, "more of one that was given", "", "f", "given\na")
	write(t, s, "f", "b", true)
	write(t, s, "f", "c", false)
	has(t, s, "once", "", "f", "given\nabc")
	write(t, s, "g", "1", false)
	write(t, s, "g", "2", true)
	has(t, s, "first without, then with", "", "f", "given\nabc", "g", "12")
	write(t, s, "e", "x", true)
	write(t, s, "main", "y", true)
	write(t, s, "-", "", true)
	has(t, s, "empty, and none", "", "f", "given\nabc", "g", "12", "e", "x", "main", "y")
	s = streams.New("main", files)
	write(t, s, "g", "", true)
	write(t, s, "f", "", false)
	has(t, s, "nothing behind it", "", "g", "old", "f", "")
}

// P17.2: a file without a name is none, also of one that was given, and whatever else there is; nothing has changed then.
func TestNoName(t *testing.T) {
	s := streams.New("", []api.File{{Name: "", S: "given"}})
	full := strings.Repeat("x", most)
	for _, out := range []string{"", full} {
		write(t, s, "-", out, false)
		for _, more := range []bool{false, true} {
			for _, text := range []string{"", "a", full, full + "x"} {
				writes(t, s, "", text, more, api.ErrArg)
				has(t, s, "no name", out)
			}
		}
	}
	s, l := eight(t)
	writes(t, s, "", "a", false, api.ErrArg)
	writes(t, s, "", "", true, api.ErrArg)
	has(t, s, "beside 8 files", "", l...)
}

// eight is one with 8 files, and what Files is to tell of it.
func eight(t *testing.T) (*streams.Streams, []string) {
	t.Helper()
	s := streams.New("main", []api.File{{Name: "new", S: "given"}, {Name: "3", S: "given"}})
	var l []string
	for i := range 8 {
		name := strconv.Itoa(7 - i)
		write(t, s, name, "of "+name, false)
		l = append(l, name, "of "+name)
	}
	return s, l
}

// P17.2: 8 files may be written to, and no ninth; nothing has changed then, and all else goes on.
func TestFilesMost(t *testing.T) {
	s, l := eight(t)
	has(t, s, "8 files", "", l...)
	for _, text := range []string{"", "a"} {
		for _, more := range []bool{false, true} {
			for _, name := range []string{"8", "new", "main", " ", "77"} {
				refused(t, s, name, text, more)
				has(t, s, "no ninth", "", l...)
			}
		}
	}
	write(t, s, "0", "+", false)
	write(t, s, "7", "-", true)
	write(t, s, "-", "out", false)
	l[1], l[15] = "of 7-", "of 0+"
	has(t, s, "those that there are", "out", l...)
	refused(t, s, "new", "", false)
	read(t, s, "new", "\n", "given", 1, api.OK)
	mainIs(t, s, "\n", "main", true, api.OK)
}

// P17.2: all may have 65536 bytes, and no byte more, however they are written; nothing has changed then, and what still goes into it is written.
func TestBytesMost(t *testing.T) {
	x := func(n int) string { return strings.Repeat("x", n) }
	s := streams.New("", nil)
	refused(t, s, "-", x(most+1), false)
	has(t, s, "nothing printed", "")
	write(t, s, "-", x(most), false)
	refused(t, s, "-", "a", false)
	refused(t, s, "f", "a", false)
	has(t, s, "all printed", x(most))
	write(t, s, "-", "", false)
	write(t, s, "f", "", false)
	refused(t, s, "f", "a", false)
	write(t, s, "f", "", true)
	has(t, s, "nothing goes into all", x(most), "f", "")

	s = streams.New("", nil)
	refused(t, s, "f", x(most+1), false)
	refused(t, s, "f", x(most+1), true)
	has(t, s, "no file", "")
	write(t, s, "f", x(most), false)
	refused(t, s, "-", "a", false)
	refused(t, s, "f", "a", false)
	refused(t, s, "g", "a", true)
	has(t, s, "one file", "", "f", x(most))

	s = streams.New("", nil)
	write(t, s, "f", "a", false)
	write(t, s, "-", x(most-5), false)
	write(t, s, "g", "b", true)
	refused(t, s, "f", "1234", false)
	refused(t, s, "-", "1234", false)
	refused(t, s, "h", "1234", false)
	refused(t, s, "h", x(1<<20), true)
	has(t, s, "three have it", x(most-5), "f", "a", "g", "b")
	write(t, s, "g", "12", false)
	refused(t, s, "-", "34", false)
	write(t, s, "f", "3", false)
	refused(t, s, "h", "z", false)
	has(t, s, "to the last byte", x(most-5), "f", "a3", "g", "b12")
}

// P17.2: what a file begins with counts; a file that was refused is none, and has nothing yet.
func TestBytesOfMore(t *testing.T) {
	x := func(n int) string { return strings.Repeat("x", n) }
	files := []api.File{{Name: "all", S: x(most)}, {Name: "over", S: x(most + 1)}, {Name: "f", S: x(100)}}
	s := streams.New("", files)
	refused(t, s, "over", "", true)
	refused(t, s, "all", "a", true)
	has(t, s, "refused", "")
	write(t, s, "all", "", true)
	refused(t, s, "f", "", true)
	refused(t, s, "-", "a", false)
	has(t, s, "just so many", "", "all", x(most))
	write(t, s, "f", "", false)
	has(t, s, "without more", "", "all", x(most), "f", "")

	s = streams.New("", files)
	write(t, s, "-", x(most-110), false)
	refused(t, s, "f", x(11), true)
	refused(t, s, "over", "", true)
	write(t, s, "over", "", false)
	write(t, s, "f", x(9), true)
	refused(t, s, "f", "ab", true)
	write(t, s, "f", "a", true)
	refused(t, s, "over", "a", true)
	has(t, s, "to the last byte", x(most-110), "over", "", "f", x(109)+"a")

	s = streams.New("", files)
	write(t, s, "-", x(most-50), false)
	refused(t, s, "f", "a", true)
	write(t, s, "f", "a", false)
	write(t, s, "f", "b", true)
	has(t, s, "refused, then without more", x(most-50), "f", "ab")
	refused(t, s, "f", x(49), true)
	write(t, s, "f", x(48), true)
}

// P17.3: asking changes nothing, and each answer is new memory.
func TestFilesNew(t *testing.T) {
	s := streams.New("main", nil)
	write(t, s, "-", "out", false)
	write(t, s, "f", "a", false)
	write(t, s, "g", "b", false)
	before, again, out := s.Files(), s.Files(), s.Out()
	before[0], before[1] = api.File{Name: "x", S: "y"}, api.File{}
	_ = append(before[:1], before...)
	has(t, s, "an answer that was changed", "out", "f", "a", "g", "b")
	if !slices.Equal(again, []api.File{{Name: "f", S: "a"}, {Name: "g", S: "b"}}) {
		t.Error(again)
	}
	write(t, s, "f", "1", false)
	write(t, s, "-", "+", false)
	write(t, s, "h", "c", false)
	if !slices.Equal(again, []api.File{{Name: "f", S: "a"}, {Name: "g", S: "b"}}) || out != "out" {
		t.Error(again, out)
	}
	for range 3 {
		has(t, s, "asked again", "out+", "f", "a1", "g", "b", "h", "c")
	}
}

// P17.1: what New was handed is neither changed nor kept.
func TestFilesKept(t *testing.T) {
	room := []api.File{{Name: "f", S: "a\nb"}, {Name: "g", S: "c"}, {Name: "spare", S: "d"}}
	s := streams.New("", room[:2])
	read(t, s, "f", "\n", "a", 1, api.OK)
	write(t, s, "f", "x", true)
	write(t, s, "spare", "y", true)
	if !slices.Equal(room, []api.File{{Name: "f", S: "a\nb"}, {Name: "g", S: "c"}, {Name: "spare", S: "d"}}) {
		t.Error(room)
	}
	clear(room)
	read(t, s, "f", "\n", "b", 1, api.OK)
	read(t, s, "g", "\n", "c", 1, api.OK)
	read(t, s, "spare", "\n", "", -1, api.OK)
	write(t, s, "g", "z", true)
	has(t, s, "cleared", "", "f", "a\nbx", "spare", "y", "g", "cz")
}

// P17.1 to P17.3: two of them know nothing of one another.
func TestTwo(t *testing.T) {
	files := []api.File{{Name: "f", S: "a\nb"}}
	s, other := streams.New("1\n2", files), streams.New("1\n2", files)
	mainIs(t, s, "\n", "1", true, api.OK)
	read(t, s, "f", "\n", "a", 1, api.OK)
	write(t, s, "-", strings.Repeat("x", most-5), false)
	write(t, s, "f", "y", true)
	has(t, other, "the other one", "")
	mainIs(t, other, "\n", "1", true, api.OK)
	read(t, other, "f", "\n", "a", 1, api.OK)
	write(t, other, "-", "abc", false)
	write(t, other, "f", "z", false)
	has(t, s, "the first one", strings.Repeat("x", most-5), "f", "a\nby")
	has(t, other, "the other one", "abc", "f", "z")
}

// P17.4: by each byte but \ the records of the main input are those that fields.Next tells one behind the other.
func TestAllOfIt(t *testing.T) {
	for i := range 256 {
		rs := string([]byte{byte(i)})
		if rs == `\` {
			continue
		}
		for _, text := range samples.Joined(5, "a", rs, "\n") {
			s := streams.New(text, nil)
			at := 0
			for {
				want, place, there, e := fields.Next(text, at, rs)
				record, ok, told := s.Main(rs)
				if record != want || ok != there || told != e || e != api.OK {
					t.Fatalf("%q by %q, from %d: %q, %v, %v, not %q, %v, %v", text, rs, at, record, ok, told, want, there, e)
				}
				if !ok {
					break
				}
				at = place
			}
		}
	}
}

// P17.5: what is written is not what is read: neither changes the other, also of one name.
func TestApart(t *testing.T) {
	s := streams.New("1\n2\n3", []api.File{{Name: "f", S: "a\nb\nc\nd"}, {Name: "g", S: "e\nf"}})
	write(t, s, "f", "x\ny\n", false)
	read(t, s, "f", "\n", "a", 1, api.OK)
	write(t, s, "f", "z\n", true)
	read(t, s, "f", "\n", "b", 1, api.OK)
	read(t, s, "g", "\n", "e", 1, api.OK)
	write(t, s, "g", "+\n", true)
	read(t, s, "g", "\n", "f", 1, api.OK)
	read(t, s, "g", "\n", "", 0, api.OK)
	mainIs(t, s, "\n", "1", true, api.OK)
	write(t, s, "-", "4\n5\n", false)
	mainIs(t, s, "\n", "2", true, api.OK)
	write(t, s, "new", "6\n", false)
	read(t, s, "new", "\n", "", -1, api.OK)
	mainIs(t, s, "", "3", true, api.OK)
	mainIs(t, s, "\n", "", false, api.OK)
	read(t, s, "f", "", "c\nd", 1, api.OK)
	has(t, s, "written", "4\n5\n", "f", "x\ny\nz\n", "g", "e\nf+\n", "new", "6\n")
}

// No call of what was never made by New panics.
func TestZero(t *testing.T) {
	for _, f := range []func(s *streams.Streams){
		func(s *streams.Streams) { s.Main("\n"); s.Main("") }, func(s *streams.Streams) { s.Read("f", "\n") }, func(s *streams.Streams) { s.Print("a"); s.Out() }, func(s *streams.Streams) { s.Write("f", "a", true); s.Write("f", "b", false); s.Files() }, func(s *streams.Streams) { s.Out() }, func(s *streams.Streams) { s.Files() },
	} {
		f(&streams.Streams{})
	}
}

// P17.1 to P17.3: very long texts, many files, and calls as often as a run has steps.
func TestToAnEnd(t *testing.T) {
	began := time.Now()
	files := make([]api.File, 1<<16)
	for i := range files {
		files[i] = api.File{Name: fmt.Sprint(i % (1 << 15)), S: fmt.Sprint(i)}
	}
	s := streams.New(strings.Repeat("a\n", 1<<20), files)
	many := 0
	for ; ; many++ {
		record, ok, e := s.Main("\n")
		if e != api.OK || ok && record != "a" {
			t.Fatal(record, e)
		}
		if !ok {
			break
		}
	}
	if many != 1<<20 {
		t.Error(many)
	}
	for i := range 1 << 15 {
		read(t, s, fmt.Sprint(i), "\n", fmt.Sprint(i), 1, api.OK)
	}
	for i := range 8 {
		write(t, s, fmt.Sprint(i), "", false)
	}
	for i := range 1 << 20 {
		want := api.OK
		if i >= most/2 {
			want = api.ErrFull
		}
		if p, w := s.Print("x"), s.Write("7", "y", true); p != want || w != want {
			t.Fatal(i, p, w)
		}
	}
	if s.Out() != strings.Repeat("x", most/2) || s.Files()[7].S != strings.Repeat("y", most/2) {
		t.Error("what was written:", len(s.Out()), len(s.Files()[7].S))
	}
	if d := time.Since(began); d > 20*time.Second {
		t.Error("too slow:", d)
	}
}

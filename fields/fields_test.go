package fields_test

import (
	"fmt"
	"slices"
	"strings"
	"testing"
	"time"

	"auklet/api"
	"auklet/cell"
	"auklet/fields"
	"auklet/match"
	"auklet/subst"
)

// listed are the fields of a record, as Get tells them, held against what it says of those that are not there.
func listed(t testing.TB, r *fields.Rec) []string {
	t.Helper()
	var l []string
	for i := range api.MaxFields {
		c, e := r.Get(i + 1)
		if e != api.OK || i < r.Many() && c != cell.Input(c.S) || i >= r.Many() && c != (api.Cell{}) {
			t.Fatalf("Get(%d) of %d: %v, %v", i+1, r.Many(), c, e)
		}
		if i < r.Many() {
			l = append(l, c.S)
		}
	}
	return l
}

// holds holds a record against the text and the fields that it is to have.
func holds(t testing.TB, what string, r *fields.Rec, text string, want []string) {
	t.Helper()
	if r.Text() != text || r.Many() != len(want) || !slices.Equal(listed(t, r), want) {
		t.Fatalf("%s: %q, %d, %q, not %q, %q", what, r.Text(), r.Many(), listed(t, r), text, want)
	}
	if c, e := r.Get(0); c != cell.Input(text) || e != api.OK {
		t.Fatalf("%s: Get(0): %v, %v", what, c, e)
	}
}

// taken is a record that took s.
func taken(t testing.TB, s, fs string) *fields.Rec {
	t.Helper()
	r := fields.New()
	if e := r.Take(s, fs); e != api.OK {
		t.Fatalf("Take(%q, %q): %v", s, fs, e)
	}
	return r
}

// P9.1: a new record is empty, without fields.
func TestNew(t *testing.T) {
	holds(t, "New", fields.New(), "", nil)
}

// P9.1: the text, and the fields by each kind of separator.
func TestTakeTable(t *testing.T) {
	type l = []string
	for _, x := range []struct {
		s, fs string
		want  l
	}{
		{"a b", " ", l{"a", "b"}}, {" a b ", " ", l{"a", "b"}}, {"\ta\n b \t", " ", l{"a", "b"}}, {" \n", " ", nil}, {"", " ", nil}, {"a:b", " ", l{"a:b"}},
		{"a:b", ":", l{"a", "b"}}, {":a::", ":", l{"", "a", "", ""}}, {"", ":", nil}, {":", ":", l{"", ""}}, {"a b", ":", l{"a b"}}, {"a|b", "|", l{"a", "b"}}, {"a.b", ".", l{"a", "b"}}, {"a\tb", "\t", l{"a", "b"}}, {"é", "\xa9", l{"\xc3", ""}},
		{"aé\xff", "", l{"a", "é", "\xff"}}, {"", "", nil},
		{"a, b,c", ", *", l{"a", "b", "c"}}, {"a1b22c", "[0-9]+", l{"a", "b", "c"}}, {" a b", "[ ]", l{"", "a", "b"}}, {"abc", "x*", l{"abc"}}, {"", "ab", nil}, {`a\b`, `\\`, l{"a", "b"}}, {"aab", "^a", l{"", "ab"}},
	} {
		holds(t, fmt.Sprintf("Take(%q, %q)", x.s, x.fs), taken(t, x.s, x.fs), x.s, x.want)
	}
}

// P9.1: what was taken last counts, whatever the record was.
func TestTakeAgain(t *testing.T) {
	r := fields.New()
	for range 2 {
		for _, x := range []struct {
			s, fs string
			want  []string
		}{{"a b c", " ", []string{"a", "b", "c"}}, {"x", " ", []string{"x"}}, {"", " ", nil}, {"a:b", ":", []string{"a", "b"}}} {
			r.Set(5, "five", "--")
			if e := r.Take(x.s, x.fs); e != api.OK {
				t.Fatal(e)
			}
			holds(t, "Take again", r, x.s, x.want)
		}
	}
}

// P9.1: separators that are no patterns, and too many fields; nothing has changed then.
func TestTakeWrong(t *testing.T) {
	var many strings.Builder
	for i := range api.MaxFields {
		fmt.Fprintf(&many, "%d,", i)
	}
	long := many.String()
	for _, x := range []struct {
		s, fs string
		e     api.Errno
	}{
		{"a", `\`, api.ErrShort}, {"", `\`, api.ErrShort}, {"a", "a(", api.ErrShort}, {"", "a(", api.ErrShort}, {"a", "ab)", api.ErrForm}, {"a", "**", api.ErrRepeat}, {"a", "[[:x:]]", api.ErrClass}, {"a", strings.Repeat("a", 401), api.ErrLong}, {"a", "(a{50}){10}", api.ErrLong},
		// 101 fields.
		{long, ",", api.ErrLong}, {long, ",+", api.ErrLong}, {strings.Repeat("a ", 101), " ", api.ErrLong}, {strings.Repeat("é", 101), "", api.ErrLong}, {strings.Repeat("\xff", 101), "", api.ErrLong}, {strings.Repeat("ab", 100), "ab", api.ErrLong}, {strings.Repeat(",", 1<<17), ",", api.ErrLong},
		// Too many, by what is no pattern: the pattern's error.
		{long, ",(", api.ErrShort}, {long, "**", api.ErrRepeat}, {long, `\`, api.ErrShort},
	} {
		r := taken(t, "1:two:", ":")
		if e := r.Take(x.s, x.fs); e != x.e {
			t.Errorf("Take(%.20q, %.20q): %v, not %v", x.s, x.fs, e, x.e)
		}
		holds(t, "nothing has changed", r, "1:two:", []string{"1", "two", ""})
		r.Set(4, "d", "-")
		if e := r.Take(x.s, x.fs); e != x.e {
			t.Errorf("Take(%.20q, %.20q): %v, not %v", x.s, x.fs, e, x.e)
		}
		holds(t, "nothing has changed", r, "1-two--d", []string{"1", "two", "", "d"})
	}
}

// P9.1: MaxFields fields are allowed.
func TestTakeMost(t *testing.T) {
	want := slices.Repeat([]string{"7"}, 100)
	holds(t, "by a byte", taken(t, strings.Repeat("7,", 99)+"7", ","), strings.Repeat("7,", 99)+"7", want)
	holds(t, "by a pattern", taken(t, strings.Repeat("7,,", 99)+"7", ",+"), strings.Repeat("7,,", 99)+"7", want)
	holds(t, "words", taken(t, strings.Repeat(" 7 ", 100), " "), strings.Repeat(" 7 ", 100), want)
	holds(t, "characters", taken(t, strings.Repeat("7", 100), ""), strings.Repeat("7", 100), want)
}

// P9.2: cells of the text, of fields that are there, of those that are not, and of those that can't be.
func TestGet(t *testing.T) {
	const one = api.One
	r := taken(t, "10: 2.5 :x::-1", ":")
	for _, x := range []struct {
		i int
		c api.Cell
		e api.Errno
	}{
		{0, api.Cell{K: api.Text, S: "10: 2.5 :x::-1"}, api.OK},
		{1, api.Cell{K: api.Looks, N: 10 * one, S: "10"}, api.OK},
		{2, api.Cell{K: api.Looks, N: 2*one + one/2, S: " 2.5 "}, api.OK},
		{3, api.Cell{K: api.Text, S: "x"}, api.OK},
		{4, api.Cell{K: api.Text}, api.OK},
		{5, api.Cell{K: api.Looks, N: -one, S: "-1"}, api.OK},
		{6, api.Cell{}, api.OK}, {99, api.Cell{}, api.OK}, {100, api.Cell{}, api.OK},
		{101, api.Cell{}, api.ErrField}, {-1, api.Cell{}, api.ErrField}, {1 << 62, api.Cell{}, api.ErrField}, {-1 << 63, api.Cell{}, api.ErrField}, {1<<63 - 1, api.Cell{}, api.ErrField},
	} {
		if c, e := r.Get(x.i); c != x.c || e != x.e {
			t.Errorf("Get(%d): %v, %v, not %v, %v", x.i, c, e, x.c, x.e)
		}
	}
	if c, e := taken(t, " 7 ", " ").Get(0); c != (api.Cell{K: api.Looks, N: 7 * one, S: " 7 "}) || e != api.OK {
		t.Error("Get(0) of a number:", c, e)
	}
	if c, e := fields.New().Get(0); c != (api.Cell{K: api.Text}) || e != api.OK {
		t.Error("Get(0) of an empty one:", c, e)
	}
	if c, e := fields.New().Get(1); c != (api.Cell{}) || e != api.OK {
		t.Error("Get(1) of an empty one:", c, e)
	}
}

// P9.2, P9.5: a field is set; those ahead of it are there then, and the text is made anew.
func TestSetTable(t *testing.T) {
	type l = []string
	for _, x := range []struct {
		s, fs  string
		i      int
		by     string
		ofs    string
		text   string
		fields l
	}{
		{" a b ", " ", 4, "d", "-", "a-b--d", l{"a", "b", "", "d"}},
		{" a b ", " ", 3, "", "-", "a-b-", l{"a", "b", ""}},
		{" a b ", " ", 1, "x", " ", "x b", l{"x", "b"}}, {" a b ", " ", 1, "a", " ", "a b", l{"a", "b"}}, {" a b ", " ", 2, "", " ", "a ", l{"a", ""}},
		{"a:b:c", ":", 2, "x", ":", "a:x:c", l{"a", "x", "c"}}, {"a:b:c", ":", 2, "x:y", ":", "a:x:y:c", l{"a", "x:y", "c"}}, {"a:b:c", ":", 3, "z", "", "abz", l{"a", "b", "z"}}, {"a:b", ":", 1, " ", "é\xff", " é\xffb", l{" ", "b"}},
		{"", " ", 1, "a", ":", "a", l{"a"}}, {"", " ", 1, "", ":", "", l{""}}, {"", " ", 2, "", ":", ":", l{"", ""}}, {"", " ", 3, "7", ", ", ", , 7", l{"", "", "7"}},
		{"a", " ", 2, `&\&`, `&\`, `a&\&\&`, l{"a", `&\&`}},
		{"a b", " ", 2, "b", "b", "abb", l{"a", "b"}},
		{"a", " ", 100, "z", ",", "a" + strings.Repeat(",", 99) + "z", append(append(l{"a"}, slices.Repeat(l{""}, 98)...), "z")},
	} {
		r := taken(t, x.s, x.fs)
		if e := r.Set(x.i, x.by, x.ofs); e != api.OK {
			t.Errorf("Set(%d, %q, %q): %v", x.i, x.by, x.ofs, e)
		}
		holds(t, fmt.Sprintf("Set(%d, %q, %q) of %q", x.i, x.by, x.ofs, x.s), r, x.text, x.fields)
	}
}

// P9.2: fields one behind the other, each time with another separator between.
func TestSetAgain(t *testing.T) {
	r := taken(t, "a b c", " ")
	r.Set(2, "x", "-")
	r.Set(5, "e", "+")
	holds(t, "the last separator", r, "a+x+c++e", []string{"a", "x", "c", "", "e"})
	r.Set(1, "", ":")
	holds(t, "and again", r, ":x:c::e", []string{"", "x", "c", "", "e"})
	r.Resize(2, ";")
	holds(t, "cut", r, ";x", []string{"", "x"})
	r.Set(3, "y", ".")
	holds(t, "what was cut is gone", r, ".x.y", []string{"", "x", "y"})
	r.Set(5, "z", ".")
	holds(t, "and all of it", r, ".x.y..z", []string{"", "x", "y", "", "z"})
}

// P9.2: fields that can't be set; nothing has changed then.
func TestSetWrong(t *testing.T) {
	for _, i := range []int{0, -1, 101, 200, 1 << 40, -1 << 63, 1<<63 - 1} {
		r := taken(t, " a b ", " ")
		if e := r.Set(i, "x", "-"); e != api.ErrField {
			t.Errorf("Set(%d): %v", i, e)
		}
		holds(t, "nothing has changed", r, " a b ", []string{"a", "b"})
		r.Set(3, "c", "-")
		if e := r.Set(i, "x", "+"); e != api.ErrField {
			t.Errorf("Set(%d): %v", i, e)
		}
		holds(t, "nothing has changed", r, "a-b-c", []string{"a", "b", "c"})
	}
}

// P9.2, P9.5: fewer fields, and more.
func TestResizeTable(t *testing.T) {
	type l = []string
	for _, x := range []struct {
		s, fs  string
		n      int
		ofs    string
		text   string
		fields l
	}{
		{" a b ", " ", 2, " ", "a b", l{"a", "b"}}, {" a b ", " ", 2, "", "ab", l{"a", "b"}}, {" a b ", " ", 1, "-", "a", l{"a"}}, {" a b ", " ", 0, "-", "", nil}, {" a b ", " ", 3, "-", "a-b-", l{"a", "b", ""}}, {"a:b:c", ":", 5, ", ", "a, b, c, , ", l{"a", "b", "c", "", ""}},
		{"", " ", 0, "-", "", nil}, {" \n", " ", 0, "-", "", nil}, {"", " ", 1, "-", "", l{""}}, {"", " ", 3, "-", "--", l{"", "", ""}}, {"", ":", 100, ":", strings.Repeat(":", 99), slices.Repeat(l{""}, 100)},
		{":::", ":", 2, "/", "/", l{"", ""}},
	} {
		r := taken(t, x.s, x.fs)
		if e := r.Resize(x.n, x.ofs); e != api.OK {
			t.Errorf("Resize(%d, %q): %v", x.n, x.ofs, e)
		}
		holds(t, fmt.Sprintf("Resize(%d, %q) of %q", x.n, x.ofs, x.s), r, x.text, x.fields)
	}
}

// P9.2: numbers of fields that can't be; nothing has changed then.
func TestResizeWrong(t *testing.T) {
	for _, n := range []int{-1, 101, 1 << 40, -1 << 63, 1<<63 - 1} {
		r := taken(t, " a b ", " ")
		if e := r.Resize(n, "-"); e != api.ErrField {
			t.Errorf("Resize(%d): %v", n, e)
		}
		holds(t, "nothing has changed", r, " a b ", []string{"a", "b"})
		r.Resize(3, "-")
		if e := r.Resize(n, "+"); e != api.ErrField {
			t.Errorf("Resize(%d): %v", n, e)
		}
		holds(t, "nothing has changed", r, "a-b-", []string{"a", "b", ""})
	}
}

// next is what Next tells.
type next struct {
	s  string
	at int
	ok bool
	e  api.Errno
}

// P9.3: the next record by each kind of rs, from all places of interest.
func TestNextTable(t *testing.T) {
	for _, x := range []struct {
		s    string
		at   int
		rs   string
		want next
	}{
		// One byte that is no \.
		{"ab\ncd\n", 0, "\n", next{"ab", 3, true, 0}}, {"ab\ncd\n", 1, "\n", next{"b", 3, true, 0}}, {"ab\ncd\n", 2, "\n", next{"", 3, true, 0}}, {"ab\ncd\n", 3, "\n", next{"cd", 6, true, 0}}, {"ab\ncd", 3, "\n", next{"cd", 5, true, 0}}, {"\n\na", 0, "\n", next{"", 1, true, 0}}, {"\n\na", 1, "\n", next{"", 2, true, 0}}, {"\n\na", 2, "\n", next{"a", 3, true, 0}}, {"\n", 0, "\n", next{"", 1, true, 0}},
		{"a b", 0, " ", next{"a", 2, true, 0}}, {"  a", 0, " ", next{"", 1, true, 0}}, {"a;b", 0, ";", next{"a", 2, true, 0}}, {"a.b", 0, ".", next{"a", 2, true, 0}}, {"ab", 0, ".", next{"ab", 2, true, 0}}, {"a*b", 0, "*", next{"a", 2, true, 0}}, {"a(b", 0, "(", next{"a", 2, true, 0}}, {"a^b", 0, "^", next{"a", 2, true, 0}}, {"ab$", 0, "$", next{"ab", 3, true, 0}}, {"ab", 0, "$", next{"ab", 2, true, 0}}, {"a[b", 0, "[", next{"a", 2, true, 0}}, {"aéb", 0, "\xa9", next{"a\xc3", 3, true, 0}}, {"\ufffd", 0, "\xff", next{"\ufffd", 3, true, 0}}, {"a\x00b", 0, "\x00", next{"a", 2, true, 0}}, {"ab", 0, "\n", next{"ab", 2, true, 0}},
		// None: paragraphs.
		{"ab\ncd\n\nef\n", 0, "", next{"ab\ncd", 7, true, 0}}, {"ab\ncd\n\nef\n", 7, "", next{"ef", 10, true, 0}}, {"ab\n\n\n\ncd", 0, "", next{"ab", 6, true, 0}}, {"ab\n\n\n\ncd", 3, "", next{"cd", 8, true, 0}}, {"ab\n\n\n\ncd", 2, "", next{"cd", 8, true, 0}}, {"\n\nab", 0, "", next{"ab", 4, true, 0}}, {"\nab\n", 0, "", next{"ab", 4, true, 0}}, {"ab\n\n", 0, "", next{"ab", 4, true, 0}}, {"ab\n\n\n", 0, "", next{"ab", 5, true, 0}}, {"ab\n", 0, "", next{"ab", 3, true, 0}}, {"ab", 0, "", next{"ab", 2, true, 0}}, {"a\nb\nc", 0, "", next{"a\nb\nc", 5, true, 0}}, {"a\n \n\nb", 0, "", next{"a\n ", 5, true, 0}}, {"\r\n\r\n", 0, "", next{"\r\n\r", 4, true, 0}}, {"ab\n", 1, "", next{"b", 3, true, 0}},
		{"\n", 0, "", next{"", 1, false, 0}}, {"\n\n\n", 0, "", next{"", 3, false, 0}}, {"\n\n\n", 2, "", next{"", 3, false, 0}}, {"ab\n", 2, "", next{"", 3, false, 0}}, {"ab\n\n", 2, "", next{"", 4, false, 0}}, {"ab\n\n", 3, "", next{"", 4, false, 0}},
		// Others: patterns.
		{"a1b22c", 0, "[0-9]+", next{"a", 2, true, 0}}, {"a1b22c", 2, "[0-9]+", next{"b", 5, true, 0}}, {"a1b22c", 4, "[0-9]+", next{"", 5, true, 0}}, {"a1b22c", 5, "[0-9]+", next{"c", 6, true, 0}}, {"ab::c:d", 0, "::", next{"ab", 4, true, 0}}, {"ab::c:d", 3, "::", next{":c:d", 7, true, 0}}, {"a|b", 0, `\|`, next{"a", 2, true, 0}}, {`a\b`, 0, `\\`, next{"a", 2, true, 0}}, {"aéb", 0, "é", next{"a", 3, true, 0}}, {"ab\n\ncd", 0, "\n\n", next{"ab", 4, true, 0}}, {"ab\n\n\ncd", 4, "\n\n", next{"\ncd", 7, true, 0}}, {"xabab", 0, "a|ab", next{"x", 3, true, 0}}, {"xaaab", 0, "b|aaa", next{"x", 4, true, 0}},
		// Parts that are empty end nothing.
		{"abc", 0, "x*", next{"abc", 3, true, 0}}, {"abxxc", 0, "x*", next{"ab", 4, true, 0}}, {"xxc", 0, "x*", next{"", 2, true, 0}}, {"abc", 0, "()", next{"abc", 3, true, 0}}, {"abc", 1, "b|()", next{"", 2, true, 0}}, {"abc", 0, "c|()", next{"ab", 3, true, 0}}, {"abc", 0, "^|$", next{"abc", 3, true, 0}}, {"abc", 0, "^$", next{"abc", 3, true, 0}},
		// The beginning and the end are those of what is left.
		{"aab", 0, "^a", next{"", 1, true, 0}}, {"aab", 1, "^a", next{"", 2, true, 0}}, {"aab", 2, "^a", next{"b", 3, true, 0}}, {"ba", 0, "^a", next{"ba", 2, true, 0}}, {"aba", 0, "a$", next{"ab", 3, true, 0}}, {"aba", 2, "a$", next{"", 3, true, 0}}, {"a\na", 0, "^a$", next{"a\na", 3, true, 0}}, {"a\na", 2, "^a$", next{"", 3, true, 0}}, {"a\nb", 0, "a$", next{"a\nb", 3, true, 0}}, {"bab", 0, "^b|a", next{"", 1, true, 0}}, {"bab", 1, "^b|a", next{"", 2, true, 0}},
		// Of what is no pattern.
		{"ab", 0, `\`, next{"", 0, false, api.ErrShort}}, {"ab", 1, "a(", next{"", 0, false, api.ErrShort}}, {"ab", 0, "ab)", next{"", 0, false, api.ErrForm}}, {"ab", 0, "**", next{"", 0, false, api.ErrRepeat}}, {"ab", 1, "[[:x:]]", next{"", 0, false, api.ErrClass}}, {"ab", 0, strings.Repeat("a", 401), next{"", 0, false, api.ErrLong}}, {"ab", 0, "(a{50}){10}", next{"", 0, false, api.ErrLong}}, {"\n", 0, "a(", next{"", 0, false, api.ErrShort}},
	} {
		s, at, ok, e := fields.Next(x.s, x.at, x.rs)
		if got := (next{s, at, ok, e}); got != x.want {
			t.Errorf("Next(%q, %d, %.20q): %v, not %v", x.s, x.at, x.rs, got, x.want)
		}
	}
}

// P9.3: places that there are none of: nothing, also of what is no pattern.
func TestNextNowhere(t *testing.T) {
	for _, s := range []string{"", "a", "ab\ncd\n", "\n\n", "é"} {
		for _, rs := range []string{"\n", "", "a+", " ", `\`, "a(", "**", strings.Repeat("a", 401)} {
			for _, at := range []int{-1, -2, len(s), len(s) + 1, 1 << 40, -1 << 63, 1<<63 - 1} {
				if record, place, ok, e := fields.Next(s, at, rs); record != "" || place != 0 || ok || e != api.OK {
					t.Errorf("Next(%q, %d, %.20q): %q, %d, %v, %v", s, at, rs, record, place, ok, e)
				}
			}
		}
	}
}

// P9.1, P9.2: two records know nothing of one another, and calls of Next nothing of others.
func TestNothingKept(t *testing.T) {
	a, b := taken(t, "a b", " "), taken(t, "a b", " ")
	a.Set(1, "x", "-")
	holds(t, "the other one", b, "a b", []string{"a", "b"})
	b.Resize(1, "+")
	holds(t, "the first one", a, "x-b", []string{"x", "b"})
	for range 3 {
		if s, at, ok, e := fields.Next("a,b;c", 0, ","); s != "a" || at != 2 || !ok || e != api.OK {
			t.Error(s, at, ok, e)
		}
		if s, at, ok, e := fields.Next("a,b;c", 0, "[;]"); s != "a,b" || at != 4 || !ok || e != api.OK {
			t.Error(s, at, ok, e)
		}
	}
}

// P9.2: asking changes nothing.
func TestAskingChangesNothing(t *testing.T) {
	r := taken(t, " a b ", " ")
	for range 3 {
		r.Get(0)
		r.Get(2)
		r.Get(50)
		r.Get(101)
		r.Get(-1)
		r.Many()
		r.Text()
		holds(t, "asked", r, " a b ", []string{"a", "b"})
	}
	r.Set(3, "c", "-")
	for range 3 {
		r.Get(50)
		r.Text()
		holds(t, "asked", r, "a-b-c", []string{"a", "b", "c"})
	}
}

// P9.1, P9.2, P9.3: long texts, and fields that are set very often.
func TestToAnEnd(t *testing.T) {
	began := time.Now()
	long := strings.Repeat("x", 1<<20)
	r := taken(t, long+" 2", " ")
	for i := range 1 << 16 {
		if e := r.Set(i%100+1, long, long); e != api.OK {
			t.Fatal(e)
		}
	}
	r.Resize(2, "-")
	holds(t, "long fields", r, long+"-"+long, []string{long, long})
	lines := strings.Repeat("a;", 1<<16)
	for _, rs := range []string{";", "[;]", "x*;+"} {
		many, at := 0, 0
		for {
			s, place, ok, e := fields.Next(lines, at, rs)
			if e != api.OK || s != "a" && ok {
				t.Fatal(s, e)
			}
			if !ok {
				break
			}
			many, at = many+1, place
		}
		if many != 1<<16 {
			t.Error(rs, many)
		}
	}
	if s, at, ok, e := fields.Next(strings.Repeat("\n", 1<<20)+"a"+strings.Repeat("\n", 1<<20), 1, ""); s != "a" || at != 2<<20+1 || !ok || e != api.OK {
		t.Error(s, at, ok, e)
	}
	if s, at, ok, e := fields.Next(long, 0, "y*"); s != long || at != len(long) || !ok || e != api.OK {
		t.Error(len(s), at, ok, e)
	}
	if d := time.Since(began); d > 20*time.Second {
		t.Error("too slow:", d)
	}
}

// No call of a record that was never made panics.
func TestZero(t *testing.T) {
	for _, f := range []func(r *fields.Rec){
		func(r *fields.Rec) { r.Take("a b", " ") }, func(r *fields.Rec) { r.Get(0); r.Get(1) }, func(r *fields.Rec) { r.Set(3, "a", "-"); r.Text() }, func(r *fields.Rec) { r.Many() }, func(r *fields.Rec) { r.Resize(3, "-"); r.Text() }, func(r *fields.Rec) { r.Text() },
	} {
		f(&fields.Rec{})
	}
}

// The tables above say of patterns what match.New says, and of separators what subst.At says.
func TestTablesErrors(t *testing.T) {
	for _, s := range []string{`\`, "a(", "ab)", "**", "[[:x:]]", strings.Repeat("a", 401), "(a{50}){10}"} {
		_, _, e := match.New(s)
		if _, _, told := subst.At("a", s); e == api.OK || told != e {
			t.Errorf("%.20q: %v, %v", s, e, told)
		}
		if got := fields.New().Take("a", s); got != e {
			t.Errorf("Take by %.20q: %v, not %v", s, got, e)
		}
		if _, _, _, got := fields.Next("a", 0, s); got != e {
			t.Errorf("Next by %.20q: %v, not %v", s, got, e)
		}
	}
}

package lex_test

import (
	"math/rand"
	"regexp"
	"slices"
	"strings"
	"testing"

	"auklet/api"
	"auklet/lex"
	"auklet/samples"
)

// What stands between tokens, and the tokens, as patterns of Go's library; in a bracket the first sign, behind ^ if that is there, is a member, even a ].
var (
	between = regexp.MustCompile(`^(?:[ \t]|\\\n|#[^\n]*)*`)
	named   = regexp.MustCompile(`^[A-Za-z_][A-Za-z0-9_]*`)
	counted = regexp.MustCompile(`^(?:[0-9]+(?:\.[0-9]*)?|\.[0-9]+)`)
	written = regexp.MustCompile(`^"((?:[^"\\\n]|\\[^\n])*)"`)
	sought  = regexp.MustCompile(`^/((?:[^/\\\[\n]|\\[^\n]|\[(?:\^(?:[^\\\n]|\\[^\n])|[^\\\n^]|\\[^\n])(?:[^\]\\\n]|\\[^\n])*\])*)/`)
	escaped = regexp.MustCompile(`(?s)\\.`)
)

// behind are the signs and kinds behind which no pattern stands.
const behind = "| ) | ] | ++ | -- | $ |"

// stands tells whether a pattern may stand behind a token.
func stands(ahead api.Token) bool {
	switch ahead.K {
	case api.TokEnd, api.TokLine, api.TokRegex, api.TokCall, api.TokWord:
		return true
	}
	return ahead.K == api.TokSign && !strings.Contains(behind, "| "+ahead.S+" |")
}

// first is the token at the beginning of s, without its place, how many bytes it has, and what is wrong with it.
func first(s string, ahead api.Token) (api.Token, int, api.Errno) {
	if s == "" {
		return api.Token{}, 0, api.OK
	}
	if s[0] == '\n' {
		return api.Token{K: api.TokLine, S: "\n"}, 1, api.OK
	}
	if w := named.FindString(s); w != "" {
		return nameOf(w, s[len(w):])
	}
	if w := counted.FindString(s); w != "" {
		return api.Token{K: api.TokNum, S: w}, len(w), api.OK
	}
	if s[0] == '"' || s[0] == '/' && stands(ahead) {
		return quotedOf(s)
	}
	for _, w := range strings.Fields(signs) {
		if strings.HasPrefix(s, w) {
			return api.Token{K: api.TokSign, S: w}, len(w), api.OK
		}
	}
	return api.Token{}, 0, api.ErrForm
}

// nameOf is the token of a name, a word or a function, with rest behind it.
func nameOf(w, rest string) (api.Token, int, api.Errno) {
	k := api.TokName
	switch {
	case len(w) > 40:
		return api.Token{}, 0, api.ErrLong
	case strings.Contains(" "+words+" ", " "+w+" "):
		k = api.TokWord
	case strings.Contains(" "+owns+" ", " "+w+" "):
		k = api.TokOwn
	case strings.HasPrefix(rest, "("):
		k = api.TokCall
	}
	return api.Token{K: k, S: w}, len(w), api.OK
}

// quotedOf is the text or the pattern at the beginning of s.
func quotedOf(s string) (api.Token, int, api.Errno) {
	if m := written.FindStringSubmatch(s); m != nil {
		meant := strings.NewReplacer(`\n`, "\n", `\t`, "\t", `\\`, `\`, `\"`, `"`, `\/`, "/").Replace(m[1])
		return api.Token{K: api.TokStr, S: meant}, len(m[0]), api.OK
	}
	if m := sought.FindStringSubmatch(s); m != nil {
		plain := escaped.ReplaceAllStringFunc(m[1], func(pair string) string {
			if pair == `\/` {
				return "/"
			}
			return pair
		})
		return api.Token{K: api.TokRegex, S: plain}, len(m[0]), api.OK
	}
	return api.Token{}, 0, api.ErrShort
}

// second is what P11.2 says of s, in another way than the package.
func second(s string) ([]api.Token, int, api.Errno) {
	if len(s) > 8000 {
		return nil, 0, api.ErrLong
	}
	var all []api.Token
	var ahead api.Token
	for at := 0; ; {
		at += len(between.FindString(s[at:]))
		w, n, e := first(s[at:], ahead)
		if e == api.OK && len(all) == 3000 {
			e = api.ErrLong
		}
		if e != api.OK {
			return nil, at, e
		}
		w.At = at
		all = append(all, w)
		if w.K == api.TokEnd {
			return all, 0, api.OK
		}
		at, ahead = at+n, w
	}
}

// agree holds Words of s against the second reading, and against P11.5.
func agree(t *testing.T, s string) {
	t.Helper()
	l, at, e := lex.Words(s)
	want, wantAt, wantE := second(s)
	if !slices.Equal(l, want) || at != wantAt || e != wantE {
		t.Fatalf("Words(%q): %+v, %d, %v, not %+v, %d, %v", s, l, at, e, want, wantAt, wantE)
	}
	from := 0
	for i, w := range l {
		if w.At < from || i > 0 && w.At <= l[i-1].At {
			t.Fatalf("Words(%q): %+v: the places do not rise", s, l)
		}
		if w.K == api.TokStr || w.K == api.TokRegex {
			continue
		}
		if from = w.At + len(w.S); from > len(s) || s[w.At:from] != w.S {
			t.Fatalf("Words(%q): %+v: %q does not stand there", s, l, w.S)
		}
	}
}

// P11.2, P11.5: all short texts of signs that tokens begin with, end with, or are closed by.
func TestSecond(t *testing.T) {
	for _, s := range samples.Joined(4, "a", "if", "int", "1", ".", "(", ")", "/", " ", `"`, `\`, "\n", "[", "#", "=", "+", "&", "é") {
		agree(t, s)
	}
}

// P11.2, P11.5: all short patterns, and all short texts.
func TestSecondQuoted(t *testing.T) {
	for _, s := range samples.Joined(7, "/", "[", "]", "^", `\`, "a") {
		agree(t, "/"+s)
	}
	for _, s := range samples.Joined(4, "/", "[", "]", "^", `\`, "\n", "é") {
		agree(t, "/"+s+"/")
		agree(t, "/["+s+"]/")
	}
	for _, s := range samples.Joined(5, `"`, `\`, "\n", "n", "t", "/", "a") {
		agree(t, `"`+s)
		agree(t, `"`+s+`"`)
	}
}

// P11.2: a / behind each two tokens.
func TestSecondStroke(t *testing.T) {
	pieces := slices.Concat(strings.Fields(words), strings.Fields(owns), strings.Fields(signs), []string{"a", "1", ".5", `"a"`, "/a/", "\n", "\\\n", "f(", "#"})
	for _, a := range pieces {
		for _, b := range pieces {
			for _, rest := range []string{"/a/", " /a/", "/=/", "/", ""} {
				agree(t, a+b+rest)
				agree(t, a+" "+b+rest)
			}
		}
	}
}

// P11.2, P11.5: any bytes, and programs of any tokens, some of them too long.
func TestSecondAny(t *testing.T) {
	pick := rand.New(rand.NewSource(11)).Intn
	var every []byte
	for c := range 256 {
		every = append(every, byte(c))
	}
	for range 20000 {
		agree(t, samples.Bytes(pick, string(every), 12))
		agree(t, samples.Bytes(pick, "aB_19.\"/\\[]^#\n\t (){}+-=<>!&|~$;,?:*%", 40))
	}
	pieces := slices.Concat(strings.Fields(words), strings.Fields(owns), strings.Fields(signs), []string{" ", "\t", "\n", "a", "x1", "12", "1.5", ".5", `"a\n"`, `"\q"`, "/a[/]/", `/\//`, "# x\n", "\\\n", "f("})
	for range 2000 {
		var s strings.Builder
		for range pick(60) {
			s.WriteString(pieces[pick(len(pieces))])
			s.WriteString(" "[:pick(2)])
		}
		agree(t, s.String())
	}
	for range 60 {
		agree(t, strings.Repeat("+ ", 2980)+strings.Repeat("; ", pick(40))+samples.Bytes(pick, " \"a&#\n;", 4))
		agree(t, strings.Repeat("ab ", 2660)+strings.Repeat(" ", pick(40))+samples.Bytes(pick, " \"a&#\n;", 4))
	}
}

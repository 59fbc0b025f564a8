package lex

import (
	"strings"

	"auklet/api"
)

// fault is what gives a reading up: the place of what can't be read, and why it can't.
type fault struct {
	at int
	e  api.Errno
}

// reader reads s from the left, token by token: it is at the place at, behind the token last.
type reader struct {
	s    string
	at   int
	last api.Token
}

// word reads the next token; at the end it is the end, again and again.
func (r *reader) word() api.Token {
	r.pass()
	word := api.Token{At: r.at}
	word.K, word.S = r.read()
	r.last = word
	return word
}

// left is what is still to be read.
func (r *reader) left() string { return r.s[r.at:] }

// take reads n bytes more.
func (r *reader) take(n int) string {
	taken := r.s[r.at : r.at+n]
	r.at += n
	return taken
}

// pass passes over what stands between tokens.
func (r *reader) pass() {
	for {
		left := r.left()
		switch {
		case strings.HasPrefix(left, " "), strings.HasPrefix(left, "\t"):
			r.at++
		case strings.HasPrefix(left, "\\\n"):
			r.at += 2
		case strings.HasPrefix(left, "#"):
			r.at += run(left, func(c byte) bool { return c != '\n' })
		default:
			return
		}
	}
}

// read reads the token that begins here: its kind, its text.
func (r *reader) read() (int, string) {
	left := r.left()
	if left == "" {
		return api.TokEnd, ""
	}
	switch c := left[0]; {
	case c == '\n':
		return api.TokLine, r.take(1)
	case isLetter(c):
		return r.name()
	case isDigit(c), c == '.' && len(left) > 1 && isDigit(left[1]):
		return api.TokNum, r.number()
	case c == '"':
		return api.TokStr, r.text()
	case c == '/' && !isOperand(r.last):
		return api.TokRegex, r.pattern()
	}
	return api.TokSign, r.sign()
}

// isOperand tells whether with the token an operand may end, so that a / behind it divides.
func isOperand(word api.Token) bool {
	switch word.K {
	case api.TokNum, api.TokStr, api.TokName, api.TokOwn:
		return true
	case api.TokSign:
		switch word.S {
		case ")", "]", "++", "--", "$":
			return true
		}
	}
	return false
}

// name reads letters and digits, and tells what they name.
func (r *reader) name() (int, string) {
	n := run(r.left(), isOfName)
	if n > api.MaxName {
		panic(fault{r.at, api.ErrLong})
	}
	s := r.take(n)
	switch {
	case Word(s):
		return api.TokWord, s
	case Own(s):
		return api.TokOwn, s
	case strings.HasPrefix(r.left(), "("):
		return api.TokCall, s
	}
	return api.TokName, s
}

// number reads digits, perhaps with a point among them.
func (r *reader) number() string {
	left := r.left()
	n := run(left, isDigit)
	if strings.HasPrefix(left[n:], ".") {
		n++
		n += run(left[n:], isDigit)
	}
	return r.take(n)
}

// sign reads the longest sign that begins here.
func (r *reader) sign() string {
	left := r.left()
	for n := min(2, len(left)); n > 0; n-- {
		if isSign(left[:n]) {
			return r.take(n)
		}
	}
	panic(fault{r.at, api.ErrForm})
}

// isSign tells whether s is a sign of the language.
func isSign(s string) bool {
	switch s {
	case "++", "--", "+=", "-=", "*=", "/=", "%=", "==", "!=", "<=", ">=", ">>", "!~", "&&", "||",
		"{", "}", "(", ")", "[", "]", ";", ",", "+", "-", "*", "/", "%", "<", ">", "!", "~", "?", ":", "=", "$":
		return true
	}
	return false
}

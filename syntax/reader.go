package syntax

import (
	"slices"

	"auklet/api"
)

// reader goes through a program's tokens from the left, rule by rule: each rule is a method, which reads what the grammar says of it.
type reader struct {
	words  []api.Token
	closed []int  // of each ( and [, where it is closed; 0, if it is nowhere
	comma  []bool // of each ( and [, whether a comma stands right within
	at     int    // the place among words of the token that comes
	deep   int    // how deep what is being read is
	to     bool   // whether > says where a print writes to, and compares nothing
}

// newReader makes a reader of words, and looks ahead at their brackets.
func newReader(words []api.Token) *reader {
	r := &reader{words: words, closed: make([]int, len(words)), comma: make([]bool, len(words))}
	r.deep = -1 // an item is no level: what stands right within it is 0 deep; so is a text that is one expression
	var open []int
	for i := range words {
		last := len(open) - 1
		switch {
		case r.isSignAt(i, "(", "["):
			open = append(open, i)
		case last < 0: // nothing is open that a sign could be within
		case r.isSignAt(i, ","):
			r.comma[open[last]] = true
		case r.isSignAt(i, ")", "]"):
			r.closed[open[last]] = i
			open = open[:last]
		}
	}
	return r
}

// here is the token that comes: the end comes last, and is never taken.
func (r *reader) here() api.Token { return r.words[r.at] }

// take takes the token that comes.
func (r *reader) take() api.Token {
	taken := r.here()
	r.at++
	return taken
}

// fail gives up at the token that comes.
func (r *reader) fail(e api.Errno) { panic(fault{r.here().At, e}) }

// is tells whether a token of the kind k comes.
func (r *reader) is(k int) bool { return r.here().K == k }

// isSign tells whether one of signs comes.
func (r *reader) isSign(signs ...string) bool { return r.isSignAt(r.at, signs...) }

// isSignAt tells whether one of signs is the token at i.
func (r *reader) isSignAt(i int, signs ...string) bool {
	return r.words[i].K == api.TokSign && slices.Contains(signs, r.words[i].S)
}

// isWord tells whether one of words of the language comes.
func (r *reader) isWord(words ...string) bool {
	return r.is(api.TokWord) && slices.Contains(words, r.here().S)
}

// need takes a token that has to come.
func (r *reader) need(comes bool) api.Token {
	if !comes {
		r.fail(api.ErrForm)
	}
	return r.take()
}

// sign takes a sign that has to come.
func (r *reader) sign(s string) api.Token { return r.need(r.isSign(s)) }

// word takes a word of the language that has to come.
func (r *reader) word(s string) api.Token { return r.need(r.isWord(s)) }

// name takes a name that has to come.
func (r *reader) name() string { return r.need(r.is(api.TokName)).S }

// end makes sure that nothing comes any more.
func (r *reader) end() {
	if !r.is(api.TokEnd) {
		r.fail(api.ErrForm)
	}
}

// lines takes line feeds, none or more.
func (r *reader) lines() {
	for r.is(api.TokLine) {
		r.take()
	}
}

// deeper reads by a rule what is one deeper than what it stands in: whether that is too deep is asked by begin, as it is asked of some rules only.
func (r *reader) deeper(rule func() api.Node) api.Node {
	r.deep++
	n := rule()
	r.deep--
	return n
}

// begin makes sure that what is to be read begins with the token that comes, and is not too deep: a token that begins none is no form, however deep it is.
func (r *reader) begin(comes bool) {
	if !comes {
		r.fail(api.ErrForm)
	}
	if r.deep > api.MaxDepth {
		r.fail(api.ErrLong)
	}
}

// within reads by a rule what stands between two brackets, where > compares again.
func (r *reader) within(open string, rule func(), closing string) {
	to := r.to
	r.to = false
	r.sign(open)
	rule()
	r.sign(closing)
	r.to = to
}

// node is a node of the kind k that begins with the token that comes.
func (r *reader) node(k int) api.Node { return api.Node{K: k, At: r.here().At} }

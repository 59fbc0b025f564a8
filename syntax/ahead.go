package syntax

import "auklet/api"

// Some rules are told apart only by what stands further behind: here it is looked for, without taking a token.

// eachComes tells whether the for, whose ( is taken, is one of a variable and an array.
func (r *reader) eachComes() bool {
	if !r.is(api.TokName) {
		return false // it may be the end, with nothing behind
	}
	in := r.words[r.at+1]
	return in.K == api.TokWord && in.S == "in" &&
		r.words[r.at+2].K == api.TokName && r.isSignAt(r.at+3, ")")
}

// isListInBrackets tells whether the ( that comes, if one does, and its ) stand around all that is printed.
func (r *reader) isListInBrackets() bool {
	if !r.isSign("(") || !r.comma[r.at] || r.closed[r.at] == 0 {
		return false
	}
	behind := r.closed[r.at] + 1
	switch r.words[behind].K {
	case api.TokLine, api.TokEnd:
		return true
	}
	return r.isSignAt(behind, ";", "}", ">", ">>", ")")
}

// isAssignment tells whether what comes can be set, and is. (Once it was read as an operand, no more would be known of brackets around it, and what stands in brackets can't be set.)
func (r *reader) isAssignment() bool {
	if !r.placeComes() {
		return false
	}
	return r.isSignAt(r.behindPlace(r.at), "=", "+=", "-=", "*=", "/=", "%=")
}

// behindPlace is the place behind what can be set that begins at i; or else that of the token with which it can't go on, so that the reading fails there.
func (r *reader) behindPlace(i int) int {
	switch {
	case r.words[i].K == api.TokName:
		return r.behindBrackets(i+1, "[")
	case !r.isSignAt(i, "$"):
		return i
	case r.isSignAt(i+1, "++", "--"):
		return r.behindPlace(i + 2)
	}
	return r.behindPrimary(i + 1)
}

// behindPrimary is the place behind the operand without signs that begins at i, likewise.
func (r *reader) behindPrimary(i int) int {
	switch r.words[i].K {
	case api.TokNum, api.TokStr, api.TokRegex:
		return i + 1
	case api.TokCall, api.TokOwn:
		return r.behindBrackets(i+1, "(")
	case api.TokWord:
		return r.behindGetline(i)
	}
	if r.isSignAt(i, "(") {
		return r.behindBrackets(i, "(")
	}
	return r.behindPlace(i)
}

// behindGetline is the place behind the getline that begins at i, likewise.
func (r *reader) behindGetline(i int) int {
	if r.words[i].S != "getline" {
		return i
	}
	i = r.behindPlace(i + 1)
	if r.isSignAt(i, "<") {
		i = r.behindPrimary(i + 1)
	}
	return i
}

// behindBrackets is the place behind what the bracket at i opens, or i, if none is there.
func (r *reader) behindBrackets(i int, open string) int {
	if r.isSignAt(i, open) && r.closed[i] > 0 {
		return r.closed[i] + 1
	}
	return i
}

package ere

import (
	"strconv"
	"strings"

	"auklet/api"
	"auklet/class"
)

// Show is a text of r; empty, if r can't be.
func Show(r api.Re) string {
	if !Can(r) {
		return ""
	}
	var b strings.Builder
	put(&b, r)
	return b.String()
}

// put writes r, within ( ) if it is of one of the kinds.
func put(b *strings.Builder, r api.Re, kinds ...int) {
	if isOf(r, kinds...) {
		b.WriteByte('(')
		put(b, r)
		b.WriteByte(')')
		return
	}
	switch r.K {
	case api.ReSet:
		b.WriteString(setText(r.Set))
	case api.ReBegin:
		b.WriteByte('^')
	case api.ReEnd:
		b.WriteByte('$')
	case api.ReCat:
		putParts(b, r.L, "", api.ReAlt)
	case api.ReAlt:
		putParts(b, r.L, "|")
	case api.ReRep:
		putParts(b, r.L, "", api.ReAlt, api.ReCat, api.ReEmpty)
		b.WriteString(timesText(r.Min, r.Max))
	}
}

// putParts writes the parts with between between them, those of the kinds within ( ).
func putParts(b *strings.Builder, parts []api.Re, between string, kinds ...int) {
	for i, part := range parts {
		if i > 0 {
			b.WriteString(between)
		}
		put(b, part, kinds...)
	}
}

// setText is an atom of a set.
func setText(s api.Set) string {
	if s == class.Not(api.Set{}) {
		return "."
	}
	return class.Show(s)
}

// timesText is the shortest of the forms of a repetition.
func timesText(least, most int) string {
	switch {
	case least == 0 && most == -1:
		return "*"
	case least == 1 && most == -1:
		return "+"
	case least == 0 && most == 1:
		return "?"
	case most == -1:
		return "{" + strconv.Itoa(least) + ",}"
	case least == most:
		return "{" + strconv.Itoa(least) + "}"
	}
	return "{" + strconv.Itoa(least) + "," + strconv.Itoa(most) + "}"
}

// Plain is a pattern of just the text s.
func Plain(s string) string {
	var b strings.Builder
	for i := range len(s) {
		if strings.IndexByte(`.[](){}*+?|^$\`, s[i]) >= 0 {
			b.WriteByte('\\')
		}
		b.WriteByte(s[i])
	}
	return b.String()
}

package samples

import "strings"

// Grammar makes random texts, rule by rule.
type Grammar struct {
	rules map[string][][]string // of each rule what it may be
	flat  map[string]int        // the rules that are made of words alone, each with 1
}

// NewGrammar reads a grammar, a rule a line: its name, " : ", and what it may be, with " | " between, each of rules and words with blanks between. Words stand for themselves, but for three: none is nothing, line a line feed, question the sign ?. The first of what a rule may be has to lead to an end soon.
func NewGrammar(s string) *Grammar {
	g := &Grammar{map[string][][]string{}, map[string]int{}}
	for _, line := range strings.Split(strings.TrimSpace(s), "\n") {
		rule, is, _ := strings.Cut(line, " : ")
		for _, one := range strings.Split(" "+is+" ", " | ") {
			g.rules[rule] = append(g.rules[rule], strings.Fields(one))
		}
	}
	for more := true; more; {
		more = false
		for rule := range g.rules {
			if g.flat[rule] == 0 && g.isFlat(rule) {
				g.flat[rule] = 1
				more = true
			}
		}
	}
	return g
}

// isFlat tells whether a rule is made of words, and of rules that are known as flat.
func (g *Grammar) isFlat(rule string) bool {
	for _, one := range g.rules[rule] {
		for _, part := range one {
			if g.rules[part] != nil && g.flat[part] == 0 {
				return false
			}
		}
	}
	return true
}

// Text is a random text of a rule: pick(n) is a number from 0 to less than n. Rules stand within one another up to deep; farther within each is the first of what it may be, unless it is made of words alone.
func (g *Grammar) Text(pick func(n int) int, rule string, deep int) string {
	var s strings.Builder
	g.write(&s, pick, rule, deep)
	return s.String()
}

// write writes a random text of a part: of a rule, or of a word, with something between it and what comes.
func (g *Grammar) write(s *strings.Builder, pick func(n int) int, part string, deep int) {
	if is := g.rules[part]; is != nil {
		chosen := is[0]
		if deep > 0 || g.flat[part] > 0 {
			chosen = is[pick(len(is))]
		}
		for _, part := range chosen {
			g.write(s, pick, part, deep-1)
		}
		return
	}
	switch part {
	case "none":
	case "line":
		s.WriteByte('\n')
	case "question":
		s.WriteString("? ")
	default:
		s.WriteString(part)
		s.WriteString([]string{" ", " ", " ", "\t", " \\\n"}[pick(5)])
	}
}

package samples_test

import (
	"math/rand"
	"slices"
	"strings"
	"testing"

	"auklet/samples"
)

// All texts of the pieces, each once, as long as the pieces are told apart.
func TestJoined(t *testing.T) {
	if l := samples.Joined(2, "a", "é"); !slices.Equal(l, []string{"", "a", "é", "aa", "éa", "aé", "éé"}) {
		t.Errorf("%q", l)
	}
	for _, most := range []int{-1, 0} {
		if l := samples.Joined(most, "a"); !slices.Equal(l, []string{""}) {
			t.Errorf("%d: %q", most, l)
		}
	}
	l := samples.Joined(6, "a", "b", "c")
	if slices.Sort(l); len(l) != (729*3-1)/2 || len(slices.Compact(l)) != (729*3-1)/2 {
		t.Error(len(l))
	}
}

// Each length up to the most, and each letter's byte, comes.
func TestBytes(t *testing.T) {
	pick := rand.New(rand.NewSource(1)).Intn
	lengths, letters := map[int]int{}, map[byte]int{}
	for range 1000 {
		s := samples.Bytes(pick, "aé\xff", 3)
		lengths[len(s)]++
		for i := range s {
			letters[s[i]]++
		}
		if strings.Trim(s, "a\xc3\xa9\xff") != "" || len(s) > 3 {
			t.Errorf("%q", s)
		}
	}
	if len(lengths) != 4 || len(letters) != 4 || lengths[0] == 0 || lengths[3] == 0 || letters['a'] == 0 || letters[0xc3] == 0 || letters[0xa9] == 0 || letters[0xff] == 0 {
		t.Error(lengths, letters)
	}
}

// Each of what a rule may be comes; rules stand within one another just so deep, but for those of words alone.
func TestGrammar(t *testing.T) {
	pick := rand.New(rand.NewSource(2)).Intn
	g := samples.NewGrammar("\nA : WORD | ( A ) | none | line | question : A\nWORD : x | SIGN\nSIGN : + | -\n")
	found := map[string]int{}
	for range 3000 {
		s := g.Text(pick, "A", 3)
		found[strings.NewReplacer(" ", "", "\t", "", "\\\n", "").Replace(s)]++
		if strings.Count(s, "(")+strings.Count(s, ":") > 3 {
			t.Errorf("%q", s)
		}
	}
	for _, s := range []string{"x", "+", "-", "", "\n", "(x)", "?:-", "?:(+)", "(((x)))", "(((-)))", "(?:?:+)"} {
		if found[s] == 0 {
			t.Errorf("%q: never", s)
		}
	}
	for range 100 {
		if s := g.Text(pick, "A", 0); strings.Trim(s, "x+- \t\\\n") != "" || len(strings.Fields(s)) == 0 {
			t.Errorf("%q", s)
		}
	}
	if s := g.Text(pick, "word", 9); strings.TrimRight(s, " \t\\\n") != "word" {
		t.Errorf("%q", s)
	}
}

package nfa_test

import (
	"math/big"
	"math/rand"
	"regexp"
	"slices"
	"testing"

	"auklet/api"
	"auklet/ere"
	"auklet/nfa"
)

// words are all texts of at most n of the bytes of letters.
func words(n int, letters string) []string {
	all := []string{""}
	for from := 0; n > 0; n-- {
		to := len(all)
		for _, s := range all[from:to] {
			for _, c := range letters {
				all = append(all, s+string(c))
			}
		}
		from = to
	}
	return all
}

// goes are the places to which r goes in s from each of the places of from: P6.3 as it says, without a machine, by sets of places (bit i for the place i).
func goes(r api.Re, s string, from uint64) uint64 {
	all := uint64(1)<<(len(s)+1) - 1
	switch r.K {
	case api.ReEmpty:
		return from
	case api.ReSet:
		to := uint64(0)
		for i := range len(s) {
			if from>>i&1 == 1 && r.Set[s[i]/64]&(1<<(s[i]%64)) != 0 {
				to |= 1 << (i + 1)
			}
		}
		return to
	case api.ReBegin:
		return from & 1
	case api.ReEnd:
		return from & (all ^ all>>1)
	case api.ReCat:
		for _, part := range r.L {
			from = goes(part, s, from)
		}
		return from
	case api.ReAlt:
		to := uint64(0)
		for _, part := range r.L {
			to |= goes(part, s, from)
		}
		return to
	}
	for range r.Min {
		from = goes(r.L[0], s, from)
	}
	to := from
	for n := r.Min; n != r.Max; n++ {
		from = goes(r.L[0], s, from)
		if from == 0 || r.Max == -1 && to|from == to {
			break
		}
		to |= from
	}
	return to
}

// places are the places of a set.
func places(set uint64) []int {
	var l []int
	for i := range 64 {
		if set>>i&1 == 1 {
			l = append(l, i)
		}
	}
	return l
}

// check holds all of P6.3 for r and s.
func check(t *testing.T, p *nfa.Prog, r api.Re, s string) {
	t.Helper()
	for at := -1; at <= len(s)+1; at++ {
		var want []int
		last := -1
		if at >= 0 && at <= len(s) {
			want = places(goes(r, s, 1<<at))
		}
		if len(want) > 0 {
			last = want[len(want)-1]
		}
		if ends := p.Ends(s, at); !slices.Equal(ends, want) {
			t.Errorf("Ends of %q in %q from %d: %v, not %v", ere.Show(r), s, at, ends, want)
		}
		if n := p.Longest(s, at); n != last {
			t.Errorf("Longest of %q in %q from %d: %d, not %d", ere.Show(r), s, at, n, last)
		}
	}
}

// states is how many states a tree has, with no bound: P6.1 as it says; and the greatest that it or a part of it has.
func states(r api.Re) (n, greatest *big.Int) {
	n, greatest = new(big.Int), new(big.Int)
	for _, part := range r.L {
		m, g := states(part)
		n.Add(n, m)
		if g.Cmp(greatest) > 0 {
			greatest = g
		}
	}
	one := big.NewInt(1)
	switch r.K {
	case api.ReSet, api.ReBegin, api.ReEnd:
		n = one
	case api.ReAlt:
		n.Add(n, big.NewInt(int64(len(r.L)-1)))
	case api.ReRep:
		more := new(big.Int).Add(n, one)
		if r.Max != -1 {
			more.Mul(more, big.NewInt(int64(r.Max-r.Min)))
		}
		n.Mul(n, big.NewInt(int64(r.Min)))
		n.Add(n, more)
	}
	if n.Cmp(greatest) > 0 {
		greatest = n
	}
	return n, greatest
}

// wantStates is what States must tell of an r that can be.
func wantStates(r api.Re) int {
	n, greatest := states(r)
	if greatest.Cmp(big.NewInt(api.MaxStates)) >= 0 {
		return api.MaxStates + 1
	}
	return int(n.Int64()) + 1
}

// grower makes trees, always the same ones.
type grower struct{ *rand.Rand }

// grow is a tree of so many levels at most, with repetitions up to so many times.
func (g grower) grow(levels, times int) api.Re {
	if levels == 0 || g.Intn(8) == 0 {
		return []api.Re{of("a"), of("b"), of("ab"), of("a"), of("b"), empty, begin, end}[g.Intn(8)]
	}
	switch g.Intn(3) {
	case 0:
		return joined(api.ReCat, g.parts(levels, times))
	case 1:
		return joined(api.ReAlt, g.parts(levels, times))
	}
	least := g.Intn(times + 1)
	most := -1
	if g.Intn(2) == 0 {
		most = least + g.Intn(times+1-least)
	}
	return rep(least, most, g.grow(levels-1, times))
}

func (g grower) parts(levels, times int) []api.Re {
	var l []api.Re
	for range 2 + g.Intn(2) {
		l = append(l, g.grow(levels-1, times))
	}
	return l
}

// joined is a tree of that kind such as can be.
func joined(kind int, parts []api.Re) api.Re {
	var l []api.Re
	for _, x := range parts {
		switch {
		case x.K == kind:
			l = append(l, x.L...)
		case x.K != api.ReEmpty || kind == api.ReAlt:
			l = append(l, x)
		}
	}
	switch len(l) {
	case 0:
		return empty
	case 1:
		return l[0]
	}
	return api.Re{K: kind, L: l}
}

// P6.3: all short patterns, in all short texts.
func TestAllShort(t *testing.T) {
	texts := words(4, "ab")
	count := 0
	for _, s := range words(5, "ab()|*^$") {
		r, _, e := ere.Parse(s)
		if e != api.OK {
			continue
		}
		p := built(t, r)
		if p.Size() != wantStates(r) || nfa.States(r) != p.Size() {
			t.Errorf("%q has %d, %d states, not %d", s, p.Size(), nfa.States(r), wantStates(r))
		}
		for _, text := range texts {
			check(t, p, r, text)
		}
		if count++; t.Failed() {
			return
		}
	}
	if count < 5000 {
		t.Error("too few patterns:", count)
	}
}

// P6.1 to P6.3: trees of all sorts.
func TestGrown(t *testing.T) {
	g := grower{rand.New(rand.NewSource(6))}
	texts := words(5, "ab")
	long := 0
	for i := range 6000 {
		r := g.grow(2+i%4, 2+i%5)
		n := nfa.States(r)
		if want := wantStates(r); n != want {
			t.Fatalf("%q has %d states, not %d", ere.Show(r), n, want)
		}
		p, e := nfa.Build(r)
		if n > api.MaxStates {
			if long++; p != nil || e != api.ErrLong {
				t.Fatalf("Build of %q: %v, %v", ere.Show(r), p, e)
			}
			continue
		}
		if e != api.OK || p.Size() != n {
			t.Fatalf("Build of %q: %v, %v", ere.Show(r), p, e)
		}
		for range 8 {
			check(t, p, r, texts[g.Intn(len(texts))])
		}
		if t.Failed() {
			return
		}
	}
	if long < 20 {
		t.Error("too few long ones:", long)
	}
}

// P6.1: trees with many repetitions, around the bound.
func TestGrownStates(t *testing.T) {
	g := grower{rand.New(rand.NewSource(61))}
	near, over := 0, 0
	for range 40000 {
		r := g.grow(4, 12)
		if !ere.Can(r) {
			t.Fatal("can't be:", ere.Show(r))
		}
		n, want := nfa.States(r), wantStates(r)
		if n != want {
			t.Fatalf("%q has %d states, not %d", ere.Show(r), n, want)
		}
		if want > 400 && want <= 500 {
			near++
		} else if want == 501 {
			over++
		}
	}
	if near < 20 || over < 1000 {
		t.Error("too few near the bound:", near, over)
	}
}

// P6.3: as the library of Go has it, of texts of letters.
func TestAsLibrary(t *testing.T) {
	texts := words(6, "abc")
	for _, s := range []string{"a*b|c", "(a|b)*c?", "[ab]{2,3}c+", "(ab|ba){1,2}.*", "(a*b*)*c", "((a|bc)?[^b]){2}", "^(a|b)+$", "(^a|b)*c", "a(b|$)", "((^|b)a)+($|c)", "(a{2}|b{3}){2,}", "(|a)(b|)(c|cc)", ".{3}(a|.{2})", "(a+b+){2}|c{4}", "(a?b?c?){3}"} {
		r := tree(t, s)
		p := built(t, r)
		library := regexp.MustCompile("^(?:" + s + ")$")
		for _, text := range texts {
			if got, want := p.Longest(text, 0) == len(text), library.MatchString(text); got != want {
				t.Errorf("%q of all of %q: %v", s, text, got)
			}
		}
	}
}

// P6.4: Ends hang on the bytes from at on alone, but for whether at is 0.
func TestFromAtOn(t *testing.T) {
	g := grower{rand.New(rand.NewSource(64))}
	texts := words(4, "ab")
	ahead := []string{"a", "b", "x", "ba", "aab", "\n", "\xff\x00", "bbbbbbbbbb"}
	begins := 0
	for range 1500 {
		r := g.grow(3, 3)
		p, e := nfa.Build(r)
		if e != api.OK {
			continue
		}
		for range 6 {
			s := texts[g.Intn(len(texts))]
			first := p.Ends("a"+s, 1)
			for _, x := range ahead {
				ends := p.Ends(x+s, len(x))
				for i := range ends {
					ends[i] -= len(x) - 1
				}
				if !slices.Equal(ends, first) {
					t.Fatalf("%q behind %q, %q: %v, %v", s, "a", x, first, ends)
				}
			}
			// At 0 there are more, if any differ: for the beginning is there.
			zero := p.Ends(s, 0)
			for _, n := range first {
				if !slices.Contains(zero, n-1) {
					t.Fatalf("%q: %v at 0, %v behind", s, zero, first)
				}
			}
			if len(zero) > len(first) {
				begins++
			}
		}
	}
	if begins < 100 {
		t.Error("too few with a beginning:", begins)
	}
}

package class_test

import (
	"math/bits"
	"testing"

	"auklet/api"
	"auklet/class"
)

// where is the set of the bytes of which is holds: by the words of package api, that byte 64i+k is the bit 2^k of the number i.
func where(is func(c int) bool) api.Set {
	var s api.Set
	for c := range 256 {
		if is(c) {
			s[c>>6] += 1 << (c & 63)
		}
	}
	return s
}

// of is the set of the bytes of s.
func of(s string) api.Set {
	return where(func(c int) bool {
		for i := 0; i < len(s); i++ {
			if int(s[i]) == c {
				return true
			}
		}
		return false
	})
}

// span is the set of the bytes from from to to.
func span(from, to int) api.Set {
	return where(func(c int) bool { return c >= from && c <= to })
}

// but is the set of all bytes but those of s.
func but(s api.Set) api.Set {
	return api.Set{^s[0], ^s[1], ^s[2], ^s[3]}
}

// sets are some sets: none, all, each byte alone, spans, classes, the edges of the words, and many without a rule; and of each all others.
func sets() []api.Set {
	l := []api.Set{{}, {1}, {1 << 63}, {0, 1}, {0, 1 << 63}, {0, 0, 1}, {0, 0, 1 << 63}, {0, 0, 0, 1}, {0, 0, 0, 1 << 63}, {1, 2, 3, 4}, of("^-][\\"), of("nt\n\t\\"), of("a:[]")}
	for c := range 256 {
		l = append(l, span(c, c), span(0, c), span(c/2, c))
	}
	for name := range classes() {
		s, _ := class.Named(name)
		l = append(l, s)
	}
	x := uint64(88172645463325252)
	for range 300 {
		var s api.Set
		for i := range s {
			x ^= x << 13
			x ^= x >> 7
			x ^= x << 17
			s[i] = x
		}
		l = append(l, s)
	}
	for _, s := range l {
		l = append(l, but(s))
	}
	return l
}

// classes tells of each class which bytes it has, in the numbers of P4.2.
func classes() map[string]func(c int) bool {
	upper := func(c int) bool { return c >= 'A' && c <= 'Z' }
	lower := func(c int) bool { return c >= 'a' && c <= 'z' }
	digit := func(c int) bool { return c >= '0' && c <= '9' }
	alnum := func(c int) bool { return upper(c) || lower(c) || digit(c) }
	return map[string]func(c int) bool{
		"alpha":  func(c int) bool { return upper(c) || lower(c) },
		"digit":  digit,
		"alnum":  alnum,
		"upper":  upper,
		"lower":  lower,
		"space":  func(c int) bool { return c >= 9 && c <= 13 || c == ' ' },
		"blank":  func(c int) bool { return c == 9 || c == ' ' },
		"punct":  func(c int) bool { return c >= 33 && c <= 126 && !alnum(c) },
		"print":  func(c int) bool { return c >= 32 && c <= 126 },
		"graph":  func(c int) bool { return c >= 33 && c <= 126 },
		"cntrl":  func(c int) bool { return c >= 0 && c <= 31 || c == 127 },
		"xdigit": func(c int) bool { return digit(c) || c >= 'A' && c <= 'F' || c >= 'a' && c <= 'f' },
	}
}

// P4.1: the bytes of Add, in the bits that package api tells.
func TestAddTable(t *testing.T) {
	for _, x := range []struct {
		s        api.Set
		from, to byte
		want     api.Set
	}{
		{api.Set{}, 0, 0, api.Set{1}},
		{api.Set{}, 63, 63, api.Set{1 << 63}},
		{api.Set{}, 64, 64, api.Set{0, 1}},
		{api.Set{}, 63, 64, api.Set{1 << 63, 1}},
		{api.Set{}, 'a', 'c', api.Set{0, 0xe00000000}},
		{api.Set{}, '0', '9', api.Set{0x3ff000000000000}},
		{api.Set{}, 127, 128, api.Set{0, 1 << 63, 1}},
		{api.Set{}, 191, 192, api.Set{0, 0, 1 << 63, 1}},
		{api.Set{}, 255, 255, api.Set{0, 0, 0, 1 << 63}},
		{api.Set{}, 254, 255, api.Set{0, 0, 0, 3 << 62}},
		{api.Set{}, 0, 255, api.Set{1<<64 - 1, 1<<64 - 1, 1<<64 - 1, 1<<64 - 1}},
		{api.Set{}, 1, 0, api.Set{}},
		{api.Set{}, 255, 0, api.Set{}},
		{api.Set{}, 'c', 'a', api.Set{}},
		{api.Set{5, 6, 7, 8}, 'c', 'a', api.Set{5, 6, 7, 8}},
		{api.Set{5, 6, 7, 8}, 1, 1, api.Set{7, 6, 7, 8}},
		{api.Set{5, 6, 7, 8}, 0, 2, api.Set{7, 6, 7, 8}},
		{api.Set{5, 6, 7, 8}, 0, 0, api.Set{5, 6, 7, 8}},
	} {
		if s := class.Add(x.s, x.from, x.to); s != x.want {
			t.Errorf("Add(%x, %d, %d): %x, not %x", x.s, x.from, x.to, s, x.want)
		}
	}
}

// P4.1: Add over all pairs of bytes; what is in the set stays there.
func TestAddAll(t *testing.T) {
	for _, s := range []api.Set{{}, of("a^\x00\xff"), {0xaaaaaaaaaaaaaaaa, 0x5555555555555555, 0xf0f0f0f0f0f0f0f0, 0x123456789abcdef}} {
		for from := range 256 {
			for to := range 256 {
				want := where(func(c int) bool { return s[c>>6]>>(c&63)&1 == 1 || c >= from && c <= to })
				if got := class.Add(s, byte(from), byte(to)); got != want {
					t.Fatalf("Add(%x, %d, %d): %x, not %x", s, from, to, got, want)
				}
			}
		}
	}
}

// P4.1: a set that was handed in is as it was, whatever comes of it: the answers are new.
func TestSetsAreValues(t *testing.T) {
	a, b := of("abc"), of("xyz")
	class.Add(a, 0, 255)
	class.Not(a)
	class.Union(a, b)
	class.Union(b, a)
	if a != of("abc") || b != of("xyz") {
		t.Errorf("changed: %x, %x", a, b)
	}
}

// P4.1: Has is the byte's bit.
func TestHas(t *testing.T) {
	for c := range 256 {
		one := span(c, c)
		for d := range 256 {
			if class.Has(one, byte(d)) != (d == c) || class.Has(but(one), byte(d)) != (d != c) {
				t.Fatalf("Has of %d in the set of %d", d, c)
			}
		}
		if class.Has(api.Set{}, byte(c)) {
			t.Errorf("%d is in none", c)
		}
	}
	for i, s := range sets() {
		if got := where(func(c int) bool { return class.Has(s, byte(c)) }); got != s {
			t.Fatalf("set %d: Has tells %x of %x", i, got, s)
		}
	}
}

// P4.1: Not is of all others, Union of those of either, Count how many; over sets of all sorts.
func TestNotUnionCount(t *testing.T) {
	l := sets()
	for i, a := range l {
		if got := class.Not(a); got != but(a) {
			t.Fatalf("Not(%x): %x", a, got)
		}
		n := 0
		for c := range 256 {
			n += int(a[c>>6] >> (c & 63) & 1)
		}
		if got := class.Count(a); got != n {
			t.Fatalf("Count(%x): %d, not %d", a, got, n)
		}
		for j := i % 7; j < len(l); j += 7 {
			b := l[j]
			if got, want := class.Union(a, b), (api.Set{a[0] | b[0], a[1] | b[1], a[2] | b[2], a[3] | b[3]}); got != want {
				t.Fatalf("Union(%x, %x): %x, not %x", a, b, got, want)
			}
		}
	}
}

// P4.1: some counts, written out.
func TestCountTable(t *testing.T) {
	for _, x := range []struct {
		s    api.Set
		want int
	}{{api.Set{}, 0}, {api.Set{1}, 1}, {api.Set{0, 0, 0, 1 << 63}, 1}, {api.Set{1, 1, 1, 1}, 4}, {of("abc"), 3}, {of("aaa"), 1}, {span(0, 255), 256}, {but(of("abc")), 253}, {api.Set{1<<64 - 1}, 64}, {api.Set{0, 0, 7, 1<<64 - 1}, 67}} {
		if n := class.Count(x.s); n != x.want {
			t.Errorf("Count(%x): %d, not %d", x.s, n, x.want)
		}
	}
}

// P4.2: each class has just the bytes that the document names.
func TestNamed(t *testing.T) {
	counts := map[string]int{"alpha": 52, "digit": 10, "alnum": 62, "upper": 26, "lower": 26, "space": 6, "blank": 2, "punct": 32, "print": 95, "graph": 94, "cntrl": 33, "xdigit": 22}
	if len(counts) != len(classes()) {
		t.Fatal("a class is missing here")
	}
	for name, is := range classes() {
		s, ok := class.Named(name)
		if want := where(is); s != want || !ok {
			t.Errorf("Named(%q): %x, %v, not %x", name, s, ok, want)
		}
		n := 0
		for _, w := range s {
			n += bits.OnesCount64(w)
		}
		if n != counts[name] {
			t.Errorf("Named(%q) has %d bytes, not %d", name, n, counts[name])
		}
	}
}

// P4.2: none, and false, of all other names.
func TestNamedNone(t *testing.T) {
	l := []string{"", " ", "a", "word", "ascii", "Alpha", "ALPHA", "digits", "num", "[:alpha:]", ":alpha:", "alpha:", "alpha]", "alpha\x00", "\x00alpha", "alpha\n", "alphadigit", "\xff", "é", "control", "hex", "xdigi", "AZaz", "09"}
	for name := range classes() {
		l = append(l, " "+name, name+" ", name+name, name[1:], name[:len(name)-1], name+"\x00", "^"+name, string(name[0]-32)+name[1:])
	}
	for _, name := range l {
		if classes()[name] != nil {
			continue // xdigit without its x
		}
		if s, ok := class.Named(name); ok || s != (api.Set{}) {
			t.Errorf("Named(%q): %x, %v", name, s, ok)
		}
	}
}

// P4.6: Not of Not is the set; what is in Union is in either; the counts of a set and of its Not are 256.
func TestSetsTogether(t *testing.T) {
	l := sets()
	for i, a := range l {
		if got := class.Not(class.Not(a)); got != a {
			t.Fatalf("Not of Not of %x: %x", a, got)
		}
		if n := class.Count(a) + class.Count(class.Not(a)); n != 256 {
			t.Fatalf("Count of %x and of Not: %d", a, n)
		}
		if class.Union(a, class.Not(a)) != span(0, 255) || class.Union(a, a) != a || class.Union(a, api.Set{}) != a || class.Union(api.Set{}, a) != a {
			t.Fatalf("Union of %x with its like", a)
		}
		b := l[(i*31+7)%len(l)]
		u := class.Union(a, b)
		for c := range 256 {
			if class.Has(u, byte(c)) != (class.Has(a, byte(c)) || class.Has(b, byte(c))) {
				t.Fatalf("%d in Union(%x, %x)", c, a, b)
			}
		}
	}
}

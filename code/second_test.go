package code_test

import (
	"math"
	"math/big"
	"math/rand"
	"slices"
	"strings"
	"testing"
	"unicode/utf8"

	"auklet/api"
	"auklet/cell"
	"auklet/code"
	"auklet/format"
	"auklet/samples"
)

// whole are some numbers and texts, and cells of all kinds of these: all that can be.
func whole() []api.Cell {
	all := l(nil)
	for _, n := range []int64{0, 1, -1, 499999, 500000, -500000, 999999, one, -one, 1000001, -1500000, 2 * one, 3 * one, -7 * one, 10 * one, 255 * one, 3037000499, -3037000500, 3037000499976, math.MaxInt64 - 1, math.MaxInt64, math.MinInt64 + 1, math.MinInt64} {
		all = append(all, c(n))
	}
	for _, s := range []string{"", " ", "0", "-0", "00", "1", "1.0", "+1", " 1 ", "\t-2.5\n", "10", "9", ".5", ".", "-", "1.", "3x", "x3", "1 2", "abc", "ABC", "aBc", "ab", "é", "\xc3", "\xa9é", "\x00", "\xff\xfe", "%d", "%s|%5.1f", "%%", "%c", "%", "%*d", "%q", "nan", "0x1f", "1e3",
		"9223372036854.775807", great, "-9223372036854.775808", "-9223372036854.775809", "99999999999999999999", "99999999999999999999x", "0.0000001"} {
		all = append(all, c(s))
		if x := cell.Input(s); x.K == api.Looks {
			all = append(all, x)
		}
	}
	return all
}

// broken are cells that can't be.
func broken() []api.Cell {
	return []api.Cell{{N: 1}, {S: "a"}, {N: one, S: "1"}, {K: api.Number, N: one, S: "x"}, {K: api.Text, N: 5, S: "7"}, looks("x", 3*one), looks("", one), looks("5", 6*one), {K: -1, N: one, S: "1"}, {K: 4, N: one, S: "1"}, {K: math.MaxInt, S: "a"}, {K: math.MinInt, N: -1}}
}

// all are cells that can be, and some that can't.
func all() []api.Cell { return append(whole(), broken()...) }

// fits is the Number of millionths that n is, cut off towards 0, or the error.
func fits(n *big.Rat) (api.Cell, api.Errno) {
	cut := new(big.Int).Quo(n.Num(), n.Denom())
	if !cut.IsInt64() {
		return api.Cell{}, api.ErrOver
	}
	return c(cut.Int64()), api.OK
}

// wantTwo is what Two is to tell, by rationals.
func wantTwo(sign string, a, b api.Cell) (api.Cell, api.Errno) {
	if at := slices.Index(comparers(), sign); at >= 0 {
		of := cell.Compare(a, b)
		return truth([]bool{of == -1, of != 1, of == 0, of != 0, of == 1, of != -1}[at]), api.OK
	}
	m, e := cell.Num(a)
	if e != api.OK {
		return api.Cell{}, e
	}
	n, e := cell.Num(b)
	if e != api.OK {
		return api.Cell{}, e
	}
	x, y, told := big.NewRat(m, 1), big.NewRat(n, 1), new(big.Rat)
	if n == 0 && (sign == "/" || sign == "%") {
		return api.Cell{}, api.ErrZero
	}
	switch sign {
	case "+":
		told.Add(x, y)
	case "-":
		told.Sub(x, y)
	case "*":
		told.Mul(x, y).Mul(told, big.NewRat(1, one))
	case "/":
		told.Quo(x, y).Mul(told, big.NewRat(one, 1))
	case "%":
		told.SetInt(new(big.Int).Rem(x.Num(), y.Num()))
	}
	return fits(told)
}

// truth is 1 or 0.
func truth(is bool) api.Cell {
	if is {
		return c(1)
	}
	return c(0)
}

// holdTwo holds Two against the second reckoning.
func holdTwo(t *testing.T, sign string, a, b api.Cell) {
	t.Helper()
	v, e := code.Two(sign, a, b)
	if want, err := wantTwo(sign, a, b); v != want || e != err {
		t.Fatalf("Two(%q, %v, %v): %v, %v, not %v, %v", sign, a, b, v, e, want, err)
	}
}

// P15.1: all signs, of all pairs of cells.
func TestTwoAll(t *testing.T) {
	for _, sign := range append(reckoners(), comparers()...) {
		for _, a := range all() {
			for _, b := range all() {
				holdTwo(t, sign, a, b)
			}
		}
	}
}

// P15.1: numbers of all sizes.
func TestTwoManyNumbers(t *testing.T) {
	numbers := rand.New(rand.NewSource(15))
	next := func() api.Cell {
		n := int64(numbers.Uint64()) >> numbers.Intn(64)
		switch numbers.Intn(4) {
		case 0:
			return cell.Input(cell.Str(c(n)))
		case 1:
			return c(cell.Str(c(n)) + "z")
		}
		return c(n)
	}
	for range 40000 {
		a, b := next(), next()
		for _, sign := range append(reckoners(), comparers()...) {
			holdTwo(t, sign, a, b)
		}
	}
}

// P15.1: One is Two with a 0 ahead, or what tells whether a cell is true.
func TestOneAll(t *testing.T) {
	for _, a := range all() {
		for _, sign := range []string{"-", "+"} {
			v, e := code.One(sign, a)
			if want, err := wantTwo(sign, c(0), a); v != want || e != err {
				t.Errorf("One(%q, %v): %v, %v, not %v, %v", sign, a, v, e, want, err)
			}
		}
		if v, e := code.One("!", a); v != truth(!cell.Truth(a)) || e != api.OK {
			t.Errorf("One(!, %v): %v, %v", a, v, e)
		}
	}
}

// joined is the texts of all, with sep between.
func joined(l []api.Cell, sep string) string {
	var texts []string
	for _, c := range l {
		texts = append(texts, cell.Str(c))
	}
	return strings.Join(texts, sep)
}

// P15.2: lists of cells of all kinds, around the bound.
func TestKeyMany(t *testing.T) {
	numbers := rand.New(rand.NewSource(15))
	from := all()
	told, refused := 0, 0
	for range 30000 {
		var list []api.Cell
		for range numbers.Intn(30) {
			list = append(list, from[numbers.Intn(len(from))])
		}
		sep := samples.Bytes(numbers.Intn, "\x1c, é\xff", 12)
		want, err := joined(list, sep), api.OK
		if len(want) > 200 {
			want, err = "", api.ErrKey
			refused++
		} else {
			told++
		}
		if s, e := code.Key(list, sep); s != want || e != err {
			t.Fatalf("Key(%v, %q): %q, %v, not %q, %v", list, sep, s, e, want, err)
		}
	}
	if told < 1000 || refused < 1000 {
		t.Error(told, "told,", refused, "refused")
	}
}

// P15.2: all pairs of cells, joined, and whole parts of all.
func TestJoinAndCountAll(t *testing.T) {
	for _, a := range all() {
		for _, b := range all() {
			if v, e := code.Join(a, b); v != c(joined([]api.Cell{a, b}, "")) || e != api.OK {
				t.Errorf("Join(%v, %v): %v, %v", a, b, v, e)
			}
		}
		n, e := code.Count(a)
		if want, err := wantCount(a); n != want || e != err {
			t.Errorf("Count(%v): %d, %v, not %d, %v", a, n, e, want, err)
		}
	}
}

// wantCount is what Count is to tell: what is written ahead of the point.
func wantCount(a api.Cell) (int, api.Errno) {
	n, e := cell.Num(a)
	if e != api.OK {
		return 0, e
	}
	digits, _, _ := strings.Cut(cell.Str(c(n)), ".")
	told, ok := new(big.Int).SetString(digits, 10)
	if !ok {
		panic("no digits")
	}
	return int(told.Int64()), api.OK
}

// characters are those of s.
func characters(s string) []string { return strings.SplitAfter(s, "") }

// wantPart is the characters of s from a place on, one by one; a third cell, if there is none, is as great as can be, and the place 1 at least.
func wantPart(l []api.Cell) (api.Cell, api.Errno) {
	from, e := wantCount(l[1])
	if e != api.OK {
		return api.Cell{}, e
	}
	end := math.MaxInt
	if len(l) == 2 {
		from = max(from, 1)
	} else {
		many, e := wantCount(l[2])
		if e != api.OK {
			return api.Cell{}, e
		}
		end = from + many
	}
	told := ""
	if s := cell.Str(l[0]); s != "" {
		for i, x := range characters(s) {
			if i+1 >= from && i+1 < end {
				told += x
			}
		}
	}
	return c(told), api.OK
}

// wantPlace is the place of the first character from which on s has t's characters.
func wantPlace(s, t string) int {
	if t == "" {
		return 1
	}
	if s == "" {
		return 0
	}
	all, part := characters(s), characters(t)
	for at := range all {
		if at+len(part) <= len(all) && slices.Equal(all[at:at+len(part)], part) {
			return at + 1
		}
	}
	return 0
}

// turned is s with the letters of from as those of to.
func turned(s, from, to string) string {
	told := ""
	for _, b := range []byte(s) {
		if at := strings.IndexByte(from, b); at >= 0 {
			b = to[at]
		}
		told += string([]byte{b})
	}
	return told
}

const (
	smalls = "abcdefghijklmnopqrstuvwxyz"
	greats = "ABCDEFGHIJKLMNOPQRSTUVWXYZ"
)

// wantOwn is what Own is to tell of cells that are as many as it takes.
func wantOwn(name string, l []api.Cell) (api.Cell, api.Errno) {
	s := cell.Str(l[0])
	switch name {
	case "length":
		return c(utf8.RuneCountInString(s)), api.OK
	case "index":
		return c(wantPlace(s, cell.Str(l[1]))), api.OK
	case "tolower":
		return c(turned(s, greats, smalls)), api.OK
	case "toupper":
		return c(turned(s, smalls, greats)), api.OK
	case "int":
		n, e := wantCount(l[0])
		if e != api.OK {
			return api.Cell{}, e
		}
		return c(n), api.OK
	case "substr":
		return wantPart(l)
	}
	told, e := format.Do(s, l[1:])
	if e != api.OK {
		return api.Cell{}, e
	}
	return c(told), api.OK
}

// holdOwnSecond holds Own against the second reckoning, and what it tells against P15.5.
func holdOwnSecond(t *testing.T, name string, l ...api.Cell) {
	t.Helper()
	v, e := code.Own(name, l)
	if want, err := wantOwn(name, l); v != want || e != err {
		t.Fatalf("Own(%q, %v): %v, %v, not %v, %v", name, l, v, e, want, err)
	}
	if !cell.Can(v) {
		t.Fatalf("Own(%q, %v): %v can't be", name, l, v)
	}
}

// P15.3, P15.5: all functions of one cell and of two, of all cells; those of three, of many.
func TestOwnAll(t *testing.T) {
	cells := all()
	for _, a := range cells {
		for _, name := range []string{"length", "tolower", "toupper", "int", "sprintf"} {
			holdOwnSecond(t, name, a)
		}
		for _, b := range cells {
			for _, name := range []string{"index", "substr", "sprintf"} {
				holdOwnSecond(t, name, a, b)
			}
		}
	}
	numbers := rand.New(rand.NewSource(15))
	for range 60000 {
		pick := func() api.Cell { return cells[numbers.Intn(len(cells))] }
		holdOwnSecond(t, "substr", pick(), pick(), pick())
		holdOwnSecond(t, "sprintf", pick(), pick(), pick())
	}
}

// P15.3: parts of, and places in, all short texts.
func TestOwnShortTexts(t *testing.T) {
	texts := samples.Joined(4, "a", "B", "é", "\xc3", "\xa9")
	for _, s := range texts {
		for from := int64(-2); from < 7; from++ {
			holdOwnSecond(t, "substr", c(s), c(from*one))
			for many := int64(-1); many < 7; many++ {
				holdOwnSecond(t, "substr", c(s), c(from*one+from*100000), c(many*one+many*100000))
			}
		}
		for _, part := range samples.Joined(2, "a", "B", "é", "\xc3", "\xa9") {
			holdOwnSecond(t, "index", c(s), c(part))
		}
		for _, name := range []string{"length", "tolower", "toupper"} {
			holdOwnSecond(t, name, c(s))
		}
	}
}

// P15.3: each byte, in both cases.
func TestCasesOfBytes(t *testing.T) {
	for b := range 256 {
		s := string([]byte{'a', byte(b), 'Z'})
		holdOwnSecond(t, "tolower", c(s))
		holdOwnSecond(t, "toupper", c(s))
	}
}

// isTrue asks whether a stands so to b.
func isTrue(t *testing.T, sign string, a, b api.Cell) bool {
	t.Helper()
	v, e := code.Two(sign, a, b)
	if e != api.OK || v != c(0) && v != c(1) {
		t.Fatalf("Two(%q, %v, %v): %v, %v", sign, a, b, v, e)
	}
	return v == c(1)
}

// P15.4: signs that say the same, each of two cells that can be.
func TestSigns(t *testing.T) {
	for _, a := range whole() {
		for _, b := range whole() {
			below, above, same := isTrue(t, "<", a, b), isTrue(t, ">", a, b), isTrue(t, "==", a, b)
			if below == isTrue(t, ">=", a, b) || above == isTrue(t, "<=", a, b) || same == isTrue(t, "!=", a, b) {
				t.Errorf("%v, %v: a sign and its opposite", a, b)
			}
			if same == (below || above) || below && above {
				t.Errorf("%v, %v: below %t, above %t, the same %t", a, b, below, above, same)
			}
			if below != isTrue(t, ">", b, a) || same != isTrue(t, "==", b, a) {
				t.Errorf("%v, %v: turned about", a, b)
			}
		}
		if !isTrue(t, "==", a, a) {
			t.Errorf("%v is not itself", a)
		}
	}
}

// P15.5: all that is told can be, of whatever it is told; beside an error it is the zero cell.
func TestCanBe(t *testing.T) {
	check := func(what string, v api.Cell, e api.Errno) {
		t.Helper()
		if !cell.Can(v) || e == api.OK && v.K != api.Number && v.K != api.Text || e != api.OK && v != (api.Cell{}) {
			t.Errorf("%s: %v, %v", what, v, e)
		}
	}
	signs := slices.Concat(reckoners(), comparers(), strange(), []string{"!"})
	for _, a := range all() {
		for _, sign := range signs {
			v, e := code.One(sign, a)
			check(sign, v, e)
			for _, b := range all() {
				v, e = code.Two(sign, a, b)
				check(sign, v, e)
			}
		}
		for _, b := range all() {
			v, e := code.Join(a, b)
			check("Join", v, e)
			for _, name := range append(owns(), "split", "") {
				v, e = code.Own(name, []api.Cell{a, b})
				check(name, v, e)
			}
		}
	}
	check("true", code.Bool(true), api.OK)
	check("false", code.Bool(false), api.OK)
}

// P15.2, P15.3: the lists that are handed in are not changed, nor what stands behind them; what is told does not hang on what was told.
func TestListsStay(t *testing.T) {
	list := l("%s-%s", "b", looks(" 3", 3*one), nil, "spare", "room")
	was := slices.Clone(list)
	for range 3 {
		if s, e := code.Key(list[:3], ":"); s != "%s-%s:b: 3" || e != api.OK {
			t.Errorf("%q, %v", s, e)
		}
		if v, e := code.Own("sprintf", list[:3]); v != c("b- 3") || e != api.OK {
			t.Errorf("%v, %v", v, e)
		}
		if v, e := code.Own("substr", list[:3]); v != c("%s") || e != api.OK {
			t.Errorf("%v, %v", v, e)
		}
		if v, e := code.Own("int", list[:3]); v != (api.Cell{}) || e != api.ErrArg {
			t.Errorf("%v, %v", v, e)
		}
		if !slices.Equal(list, was) {
			t.Fatalf("%v, not %v", list, was)
		}
	}
}

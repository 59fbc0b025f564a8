package compile

import (
	"math"
	"testing"

	"auklet/api"
)

// numbers has of each instruction what its numbers are: c a constant, t a target, f a function, r a range, p a place, a an array (each of which is two numbers), n any number.
const numbers = `c p n a cp cp c c - - - - - na np cn - a fn nt - - - t t t a t - a a cn cn n - rt r r -`

// image is an image of four instructions, the third and the fourth of which are those of the function f(p, q[]), with two constants, three variables, two arrays, two ranges; one of the instructions is told.
func image(at int, ins Ins) *Image {
	c := Code{
		Ins:    []Ins{{Op: Stop}, {Op: Stop}, {Op: Stmt}, {Op: Return}},
		Consts: []api.Cell{{}, {K: api.Text}},
		Table:  api.Table{Vars: []string{"NR", "x", "y"}, Arrays: []string{"a", "b"}, Keep: []bool{false, true}, Funcs: []api.Func{{Name: "f", Params: []string{"p", "q"}, Array: []bool{false, true}}}},
		Funcs:  []int{2},
		Ranges: 2,
	}
	c.Ins[at] = ins
	return &Image{c}
}

// values are numbers that can, and numbers that can't stand for a letter, in the function or elsewhere.
func values(letter rune, inside bool) (good, bad [][]int) {
	below := func(many int) ([][]int, [][]int) {
		for i := range many {
			good = append(good, []int{i})
		}
		return good, [][]int{{-1}, {many}, {many + 1}, {math.MaxInt}, {math.MinInt}}
	}
	switch letter {
	case 'c', 'r':
		return below(2)
	case 't':
		return below(4)
	case 'f':
		return below(1)
	case 'n':
		return [][]int{{0}, {1}, {1000}}, nil
	}
	good = [][]int{{Elem, 0}, {Elem, 1}}
	bad = [][]int{{Elem, -1}, {Elem, 2}, {Elem, math.MaxInt}, {ParamElem, -1}, {ParamElem, 0}, {ParamElem, 2}, {Param, -1}, {Param, 1}, {Param, 2}, {Var, -1}, {Var, 3}, {-1, 0}, {Field + 1, 0}, {math.MinInt, 0}, {math.MaxInt, 1}}
	add := func(is bool, pair ...int) {
		if is {
			good = append(good, pair)
		} else {
			bad = append(bad, pair)
		}
	}
	add(inside, ParamElem, 1)
	add(inside && letter == 'p', Param, 0)
	for i := range 3 {
		add(letter == 'p', Var, i)
	}
	add(letter == 'p', Field, 0)
	return good, bad
}

// P16.2: Check asks whether all is there that each instruction names by each of its numbers.
func TestCheck(t *testing.T) {
	all := 0
	for op, letters := range fieldsOf(numbers) {
		for _, at := range []int{0, 1, 2, 3} {
			base := Ins{Op: Op(op)}
			var starts []int
			next := 0
			for _, letter := range letters {
				starts = append(starts, next)
				good, _ := values(letter, at > 1)
				next += copy(base.N[next:], good[0])
			}
			for i, letter := range letters {
				good, bad := values(letter, at > 1)
				for k, numbers := range append(good, bad...) {
					ins := base
					copy(ins.N[starts[i]:], numbers)
					if is := image(at, ins).Check(); is != (k < len(good)) {
						t.Errorf("%d: %v: %t", at, ins, is)
					}
					all++
				}
			}
			if !image(at, base).Check() {
				t.Errorf("%d: %v is not sound", at, base)
			}
		}
	}
	if op := len(fieldsOf(numbers)); op != len(shapes) || all < 1500 {
		t.Error(op, all)
	}
}

// fieldsOf are the letters of each instruction.
func fieldsOf(s string) [][]rune {
	l := [][]rune{nil}
	for _, r := range s {
		last := len(l) - 1
		if r == ' ' {
			l = append(l, nil)
		} else if r != '-' {
			l[last] = append(l[last], r)
		}
	}
	return l
}

// P16.2: Check asks whether there are such instructions, and whether all parts begin at one.
func TestCheckParts(t *testing.T) {
	for _, op := range []Op{-1, Op(len(shapes)), math.MinInt, math.MaxInt} {
		for at := range 4 {
			if image(at, Ins{Op: op}).Check() {
				t.Errorf("%d: the instruction %d", at, op)
			}
		}
	}
	for _, change := range []func(c *Code, at int){
		func(c *Code, at int) { c.Begin = at },
		func(c *Code, at int) { c.Rules = at },
		func(c *Code, at int) { c.End = at },
		func(c *Code, at int) { c.Funcs[0] = at },
	} {
		for _, at := range []int{-1, 0, 3, 4, 5, math.MinInt, math.MaxInt} {
			m := image(0, Ins{Op: Stop})
			change(&m.code, at)
			if m.Check() != (at == 0 || at == 3) {
				t.Errorf("a part that begins at %d", at)
			}
			if m.Check() == (m.List() == "") {
				t.Errorf("a part that begins at %d: %q", at, m.List())
			}
		}
	}
	if m := new(Image); m.Check() || m.Size() != 0 || m.Stmts() != 0 || m.List() != "" {
		t.Error("nothing was made")
	}
}

// P16.3: none of the code of a program is sound any more, if one of its numbers goes elsewhere than there is anything.
func TestSpoiled(t *testing.T) {
	m, at, e := Of("persist a; BEGIN { for (i = 0; i < 3; i++) if (i) break; else a[i, $1] += -x } /x/, !y { getline z[1] < \"f\"; f(a, f(b)) ~ s; (1, 2) in a || k } END { for (k in a) printf \"%d\", k > \"f\"; delete a; delete b[1]; split(x, a, /b/); gsub(/a/, \"b\"); x y }\nfunction f(p, q) { p[q]; q = 1; delete p; return substr(q, 1) }")
	if e != api.OK || !m.Check() {
		t.Fatal(at, e)
	}
	found := map[role]int{}
	for i := range m.code.Ins {
		for k, role := range shapes[m.code.Ins[i].Op].roles {
			n := &m.code.Ins[i].N[k]
			if role == unused || role == amount || role == ofKind && m.code.Ins[i].N[k-1] == Field {
				continue
			}
			found[role]++
			for _, other := range []int{-1, math.MinInt, 10000, math.MaxInt} {
				was := *n
				*n = other
				if m.Check() {
					t.Errorf("%d: %v", i, m.code.Ins[i])
				}
				*n = was
			}
		}
	}
	if !m.Check() || len(found) != int(ofKind)-1 {
		t.Error(found)
	}
}

package resolve

import (
	"slices"

	"auklet/api"
)

// program is what is known of a program's names.
type program struct {
	tree   api.Node
	funcs  []function
	called map[string]int // of each function's name, which one it is, the first if there are more
	arrays map[owned]int  // the names that are arrays, each with 1
}

// function is a function of a program.
type function struct {
	name   string
	params []string
	in     int // the function within which it stands, as a place says it (no text has one within another, but a tree may)
}

// owned is a name, and the function whose parameter it is; -1: it is the program's.
type owned struct {
	by   int
	name string
}

// newProgram is what is known of a tree's names at first: its functions.
func newProgram(n api.Node) *program {
	p := &program{tree: n, called: map[string]int{}, arrays: map[owned]int{}}
	for n, at := range nodes(n) {
		if n.K != api.IFunc {
			continue
		}
		if _, there := p.called[n.S]; !there {
			p.called[n.S] = len(p.funcs)
		}
		p.funcs = append(p.funcs, function{n.S, n.P, at.in})
	}
	return p
}

// whose tells whose a name is that stands at a place.
func (p *program) whose(name string, at place) owned {
	by := at.in
	for by >= 0 && !slices.Contains(p.funcs[by].params, name) {
		by = p.funcs[by].in
	}
	return owned{by, name}
}

// param is the parameter as which a function that is called is handed its i-th part, and whether there is one.
func (p *program) param(name string, i int) (owned, bool) {
	by, there := p.called[name]
	if !there || i >= len(p.funcs[by].params) {
		return owned{}, false
	}
	return owned{by, p.funcs[by].params[i]}, true
}

// findArrays finds all names that are arrays: those that stand as such, whatever others are, and those that are handed on as a parameter that is one.
func (p *program) findArrays() {
	var found []owned
	givers := map[owned][]owned{} // of a parameter, the names that are handed as it
	for n, at := range nodes(p.tree) {
		for name, way := range standing(n, at) {
			x := p.whose(name, at)
			if way == asArray {
				found = append(found, x)
			} else if param, there := p.param(at.of.S, at.part); way == handed && there {
				givers[param] = append(givers[param], x)
			}
		}
	}
	for len(found) > 0 {
		last := len(found) - 1
		x := found[last]
		found = found[:last]
		if !p.isArray(x) {
			p.arrays[x] = 1
			found = append(found, givers[x]...)
		}
	}
}

// isArray tells whether a name is known as an array.
func (p *program) isArray(x owned) bool { return p.arrays[x] > 0 }

// handsArray tells whether the i-th part that a function is called with is an array.
func (p *program) handsArray(name string, i int) bool {
	param, there := p.param(name, i)
	return there && p.isArray(param)
}

// standsAsArray tells whether a name that stands in a way at a place stands as an array.
func (p *program) standsAsArray(way int, at place) bool {
	return way == asArray || way == handed && p.handsArray(at.of.S, at.part)
}

// table is the table of the program's names, once they are known to be used as what they are.
func (p *program) table() api.Table {
	t := api.Table{Vars: specials()}
	known := map[string]int{} // of each name of the program that stood already, its place among its like
	for n, at := range nodes(p.tree) {
		for name := range standing(n, at) {
			x := p.whose(name, at)
			_, again := known[name]
			switch {
			case x.by >= 0 || Special(name) >= 0:
				continue
			case !again && p.isArray(x):
				known[name] = len(t.Arrays)
				t.Arrays = append(t.Arrays, name)
				t.Keep = append(t.Keep, false)
			case !again:
				known[name] = len(t.Vars)
				t.Vars = append(t.Vars, name)
			}
			if n.K == api.IKeep {
				t.Keep[known[name]] = true
			}
		}
	}
	for i := range p.funcs {
		t.Funcs = append(t.Funcs, p.told(i))
	}
	return t
}

// told is what the table tells of the i-th function.
func (p *program) told(i int) api.Func {
	f := p.funcs[i]
	t := api.Func{Name: f.name, Params: slices.Clone(f.params)}
	for _, param := range f.params {
		t.Array = append(t.Array, p.isArray(owned{i, param}))
	}
	return t
}

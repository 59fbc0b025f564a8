package resolve

import (
	"iter"

	"auklet/api"
)

// place is where a node stands.
type place struct {
	of    api.Node // the node that it is a part of
	part  int      // which of its parts it is
	in    int      // the function within which it stands, the innermost one, counted as they come; -1: none
	loop  bool     // whether it stands in a loop of that function
	aside bool     // whether it stands in BEGIN or END, where there is no record
}

// nodes goes through n and all that is within, each node ahead of its parts.
func nodes(n api.Node) iter.Seq2[api.Node, place] {
	return func(yield func(n api.Node, at place) bool) {
		functions := 0
		var walk func(n api.Node, at place) bool
		walk = func(n api.Node, at place) bool {
			if !yield(n, at) {
				return false
			}
			at.of = n
			switch n.K {
			case api.IFunc:
				at.in, at.loop = functions, false
				functions++
			case api.SWhile, api.SDo, api.SFor, api.SEach:
				at.loop = true
			case api.IBegin, api.IEnd:
				at.aside = true
			}
			for i, part := range n.L {
				at.part = i
				if !walk(part, at) {
					return false
				}
			}
			return true
		}
		walk(n, place{in: -1})
	}
}

// The ways in which a name stands.
const (
	asVariable = iota
	asArray
	handed // to a function: as an array, if that is what its parameter is
)

// standing goes through the names that stand at a node itself, each with its way.
func standing(n api.Node, at place) iter.Seq2[string, int] {
	return func(yield func(name string, way int) bool) {
		switch n.K {
		case api.EVar:
			yield(n.S, wayOf(at))
		case api.EIndex, api.EIn, api.SDelete:
			yield(n.S, asArray)
		case api.SEach:
			if len(n.P) == 2 && yield(n.P[0], asVariable) {
				yield(n.P[1], asArray)
			}
		case api.IKeep:
			for _, name := range n.P {
				if !yield(name, asArray) {
					return
				}
			}
		}
	}
}

// wayOf is the way in which a name stands that is a node of its own at that place.
func wayOf(at place) int {
	switch {
	case at.of.K == api.ECall:
		return handed
	case at.of.K == api.EOwn && at.of.S == "split" && at.part == 1:
		return asArray
	}
	return asVariable
}

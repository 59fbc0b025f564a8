package compile

import (
	"auklet/api"
	"auklet/cell"
)

// writer writes code. A target is a label till all is written, as a jump may lead to what is yet to come.
type writer struct {
	Code
	known  map[api.Cell]int // of each constant its place
	labels []int            // of each label the instruction at which it stands
}

// put writes an instruction.
func (w *writer) put(op Op, numbers ...int) {
	ins := Ins{Op: op}
	copy(ins.N[:], numbers)
	w.Ins = append(w.Ins, ins)
}

// here is the instruction that comes next.
func (w *writer) here() int { return len(w.Ins) }

// constant is the place of a constant.
func (w *writer) constant(c api.Cell) int {
	at, there := w.known[c]
	if !there {
		at = len(w.Consts)
		w.known[c] = at
		w.Consts = append(w.Consts, c)
	}
	return at
}

// text is the place of the constant that is the text s.
func (w *writer) text(s string) int { return w.constant(cell.OfStr(s)) }

// push writes that a constant is laid on the stack.
func (w *writer) push(c api.Cell) { w.put(Push, w.constant(c)) }

// label is a new label.
func (w *writer) label() int {
	w.labels = append(w.labels, 0)
	return len(w.labels) - 1
}

// mark lets a label stand at what comes next.
func (w *writer) mark(label int) { w.labels[label] = w.here() }

// link puts instructions in the place of labels.
func (w *writer) link() {
	for i := range w.Ins {
		ins := &w.Ins[i]
		for k, role := range shapes[ins.Op].roles {
			if role == target {
				ins.N[k] = w.labels[ins.N[k]]
			}
		}
	}
}

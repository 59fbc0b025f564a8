package vm

import (
	"maps"
	"slices"

	"auklet/api"
	"auklet/cell"
)

// array is an array: what keeps it, and by which name.
type array struct {
	keeper api.Keeper
	name   string
}

// newArray is an array without anything, in memory.
func newArray() array { return array{keeper: memory{}} }

// fill sets the elements of those of the arrays that are of a name, as far as they can be.
func (a array) fill(l []api.Array, name string) {
	for _, from := range l {
		if from.Name != name {
			continue
		}
		for i, key := range from.Keys[:min(len(from.Keys), len(from.Cells))] {
			if c := from.Cells[i]; len(key) <= api.MaxKey && cell.Can(c) {
				a.put(key, c)
			}
		}
	}
}

// get is an element, and whether it is there.
func (a array) get(key string) (api.Cell, bool) {
	c, there, e := a.keeper.Get(a.name, key)
	check(e)
	return c, there
}

// put sets an element.
func (a array) put(key string, c api.Cell) { check(a.keeper.Put(a.name, key, c)) }

// remove deletes an element.
func (a array) remove(key string) { check(a.keeper.Delete(a.name, key)) }

// clear deletes all elements.
func (a array) clear() { check(a.keeper.Clear(a.name)) }

// keys are the subscripts of all elements, each once, rising, in whatever order the keeper told them.
func (a array) keys() []string {
	return slices.Compact(slices.Sorted(slices.Values(must(a.keeper.Keys(a.name)))))
}

// told is the array as a result has it.
func (a array) told(name string) api.Array {
	told := api.Array{Name: name, Keys: a.keys()}
	for _, key := range told.Keys {
		c, _ := a.get(key)
		told.Cells = append(told.Cells, c)
	}
	return told
}

// memory keeps one array, whatever its name is, for as long as the run lasts.
type memory map[string]api.Cell

func (m memory) Get(_, key string) (api.Cell, bool, api.Errno) {
	c, there := m[key]
	return c, there, api.OK
}

func (m memory) Put(_, key string, c api.Cell) api.Errno {
	m[key] = c
	return api.OK
}

func (m memory) Delete(_, key string) api.Errno {
	delete(m, key)
	return api.OK
}

func (m memory) Clear(string) api.Errno {
	clear(m)
	return api.OK
}

func (m memory) Keys(string) ([]string, api.Errno) {
	return slices.Collect(maps.Keys(m)), api.OK
}

func (m memory) Sync() api.Errno { return api.OK }

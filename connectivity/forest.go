package connectivity

import "heartwood/api"

const maxDepth = 100000

// Forest is a partition whose unions can be undone. Each set is a tree; paths are not shortened, so that a union changes
// little.
type Forest struct {
	vertices []vertex
	stack    []union
	count    int
}

// vertex is a vertex; those that have no other parent tell of their sets.
type vertex struct{ parent, size, least int }

// union is a union that can be undone: one root was put below another one, whose least vertex may have changed. A union
// that joined nothing has the root -1 below.
type union struct{ below, above, least int }

// NewForest returns the partition in which each vertex is a set of its own.
func NewForest(n int) (*Forest, api.Errno) {
	if n < 1 || n > api.MaxList {
		return nil, api.ErrRange
	}
	f := &Forest{vertices: make([]vertex, n), count: n}
	for i := range n {
		f.vertices[i] = vertex{i, 1, i}
	}
	return f, api.OK
}

// check returns an error unless all numbers are those of vertices.
func (f *Forest) check(numbers ...int) api.Errno {
	if f == nil {
		return api.ErrArg
	}
	for _, v := range numbers {
		if v < 0 || v >= len(f.vertices) {
			return api.ErrRange
		}
	}
	return api.OK
}

func (f *Forest) root(v int) int {
	for f.vertices[v].parent != v {
		v = f.vertices[v].parent
	}
	return v
}

// Find returns the name of the set of a vertex.
func (f *Forest) Find(v int) (int, api.Errno) {
	if err := f.check(v); err != api.OK {
		return 0, err
	}
	return f.vertices[f.root(v)].least, api.OK
}

// Union puts the sets of two vertices together, and reports whether they were different.
func (f *Forest) Union(v, w int) (bool, api.Errno) {
	if err := f.check(v, w); err != api.OK {
		return false, err
	}
	if len(f.stack) == maxDepth {
		return false, api.ErrFull
	}
	below, above := f.root(v), f.root(w)
	if below == above {
		f.stack = append(f.stack, union{below: -1})
		return false, api.OK
	}
	if f.vertices[below].size > f.vertices[above].size {
		below, above = above, below
	}
	low, high := &f.vertices[below], &f.vertices[above]
	f.stack = append(f.stack, union{below, above, high.least})
	low.parent = above
	high.size += low.size
	high.least = min(high.least, low.least)
	f.count--
	return true, api.OK
}

// Undo undoes the last union.
func (f *Forest) Undo() api.Errno {
	if f == nil {
		return api.ErrArg
	}
	if len(f.stack) == 0 {
		return api.ErrEmpty
	}
	last := f.stack[len(f.stack)-1]
	f.stack = f.stack[:len(f.stack)-1]
	if last.below >= 0 {
		low, high := &f.vertices[last.below], &f.vertices[last.above]
		low.parent = last.below
		high.size -= low.size
		high.least = last.least
		f.count++
	}
	return api.OK
}

// Count returns the number of sets.
func (f *Forest) Count() int {
	if f == nil {
		return 0
	}
	return f.count
}

// Depth returns the number of unions that are not undone.
func (f *Forest) Depth() int {
	if f == nil {
		return 0
	}
	return len(f.stack)
}

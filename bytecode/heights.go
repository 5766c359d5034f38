package bytecode

import (
	"container/heap"
	"slices"
	"sort"

	"heartwood/api"
)

// indices is a heap of indices of instructions: the least one comes first.
type indices struct{ sort.IntSlice }

func (l *indices) Push(x any) {
	if i, ok := x.(int); ok {
		l.IntSlice = append(l.IntSlice, i)
	}
}

func (l *indices) Pop() any {
	last := len(l.IntSlice) - 1
	i := l.IntSlice[last]
	l.IntSlice = l.IntSlice[:last]
	return i
}

// waiting has the instructions that are to be looked at. Most of them follow the one before at once: such a one, which
// is not 0, needs no place in the heap.
type waiting struct {
	soon  int
	later indices
}

// add lets the instruction k wait, which was found at the instruction i.
func (w *waiting) add(k, i int) {
	if k == i+1 {
		w.soon = k
	} else {
		heap.Push(&w.later, k)
	}
}

// next removes the least index, if there is one.
func (w *waiting) next() (int, bool) {
	if i := w.soon; i > 0 {
		w.soon = 0
		if w.later.Len() == 0 || i < w.later.IntSlice[0] {
			return i, true
		}
		heap.Push(&w.later, i)
	}
	if w.later.Len() == 0 {
		return 0, false
	}
	i := w.later.IntSlice[0]
	heap.Pop(&w.later)
	return i, true
}

// heights returns the heights of the instructions of a function of a well-formed code, or the index of the one at which
// there is an error, and this.
func heights(c api.Code, f int) ([]int, int, api.Errno) {
	code := c.Funcs[f].Code
	l := slices.Repeat([]int{-1}, len(code))
	l[0] = 0
	var w waiting
	for i, more := 0, true; more; i, more = w.next() {
		if err := look(c, f, l, &w, i); err != api.OK {
			return nil, i, err
		}
	}
	return l, 0, api.OK
}

// look looks at an instruction: it gives its successors their heights, and lets those wait that had none.
func look(c api.Code, f int, l []int, w *waiting, i int) api.Errno {
	x := c.Funcs[f].Code[i]
	pops, pushes := effect(c, f, x)
	if l[i] < pops {
		return api.ErrEmpty
	}
	if x.Op == api.IReturn && l[i] > pops {
		return api.ErrSize
	}
	after, n := successors(x, i)
	for _, k := range after[:n] {
		if k == len(l) {
			return api.ErrEnd
		}
	}
	for _, k := range after[:n] {
		height := l[i] - pops + pushes
		if l[k] == -1 {
			l[k] = height
			w.add(k, i)
		}
		if l[k] != height {
			return api.ErrState
		}
	}
	return api.OK
}

// effect returns how many values an instruction pops, and pushes.
func effect(c api.Code, f int, x api.Instr) (int, int) {
	switch x.Op {
	case api.ICall:
		return c.Funcs[x.A].Params, count(c.Funcs[x.A].Result)
	case api.IReturn:
		return count(c.Funcs[f].Result), 0
	}
	return classes[x.Op].pops, classes[x.Op].pushes
}

func count(b bool) int {
	if b {
		return 1
	}
	return 0
}

// successors returns the indices of the instructions that may come after the one with an index, and how many there are.
func successors(x api.Instr, i int) ([2]int, int) {
	switch x.Op {
	case api.IReturn:
		return [2]int{}, 0
	case api.IJump:
		return [2]int{x.A}, 1
	case api.IJumpFalse:
		return [2]int{i + 1, x.A}, 2
	}
	return [2]int{i + 1}, 1
}

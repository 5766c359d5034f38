package buffertree

import (
	"cmp"
	"container/heap"
	"slices"

	"heartwood/api"
)

// Sort returns the numbers of a list, ascending, and the number of blocks that are transferred.
func Sort(l []int, block, memory int) ([]int, int, api.Errno) {
	s := sizes{block, memory}
	if !s.areValid() {
		return nil, 0, api.ErrRange
	}
	if len(l) > api.MaxNodes {
		return nil, 0, api.ErrFull
	}
	moved := 0
	var runs [][]int
	for run := range slices.Chunk(slices.Clone(l), memory) {
		slices.Sort(run)
		runs = append(runs, run)
		moved += 2 * s.blocks(len(run))
	}
	for len(runs) > 1 {
		var merged [][]int
		for group := range slices.Chunk(runs, s.fan()) {
			for _, run := range group {
				moved += s.blocks(len(run))
			}
			run := merge(group, cmp.Compare[int])
			moved += s.blocks(len(run))
			merged = append(merged, run)
		}
		runs = merged
	}
	return slices.Concat(runs...), moved, api.OK
}

// head is what is left of a run that is merged.
type head[T any] struct {
	run    []T
	number int
}

// heads are the heads of runs: a heap by their first elements, and by descending numbers.
type heads[T any] struct {
	list    []head[T]
	compare func(a, b T) int
}

func (h *heads[T]) Len() int { return len(h.list) }

func (h *heads[T]) Less(i, j int) bool {
	a, b := h.list[i], h.list[j]
	return cmp.Or(h.compare(a.run[0], b.run[0]), cmp.Compare(b.number, a.number)) < 0
}

func (h *heads[T]) Swap(i, j int) { h.list[i], h.list[j] = h.list[j], h.list[i] }

// Push adds a head at the end.
func (h *heads[T]) Push(x any) {
	if v, ok := x.(head[T]); ok {
		h.list = append(h.list, v)
	}
}

// Pop takes out the last head.
func (h *heads[T]) Pop() any {
	last := len(h.list) - 1
	v := h.list[last]
	h.list = h.list[:last]
	return v
}

// merge returns the elements of runs that do not descend in one such list; of equal ones those of the last run come
// first.
func merge[T any](runs [][]T, compare func(a, b T) int) []T {
	h := &heads[T]{compare: compare}
	for i, run := range runs {
		if len(run) > 0 {
			h.list = append(h.list, head[T]{run, i})
		}
	}
	heap.Init(h)
	var l []T
	for len(h.list) > 0 {
		first := &h.list[0]
		l = append(l, first.run[0])
		if first.run = first.run[1:]; len(first.run) > 0 {
			heap.Fix(h, 0)
		} else {
			heap.Pop(h)
		}
	}
	return l
}

package connectivity

import (
	"slices"

	"heartwood/api"
)

// finder finds bridges by a search that numbers the vertices as it enters them.
type finder struct {
	edges   [][2]int
	around  [][]int // the edges of each vertex
	numbers []int   // 0 for those that were not entered
	last    int
	bridges []int
}

// Bridges returns the indices of the bridges of a graph, ascending.
func Bridges(n int, edges [][2]int) ([]int, api.Errno) {
	if n < 1 || n > api.MaxList {
		return nil, api.ErrRange
	}
	for _, e := range edges {
		if min(e[0], e[1]) < 0 || max(e[0], e[1]) >= n {
			return nil, api.ErrRange
		}
	}
	if len(edges) > api.MaxList {
		return nil, api.ErrFull
	}
	f := &finder{edges: edges, around: make([][]int, n), numbers: make([]int, n)}
	for i, e := range edges {
		f.around[e[0]] = append(f.around[e[0]], i)
		f.around[e[1]] = append(f.around[e[1]], i)
	}
	for v := range n {
		if f.numbers[v] == 0 {
			f.enter(v, -1)
		}
	}
	slices.Sort(f.bridges)
	return f.bridges, api.OK
}

// enter enters a vertex by an edge, and returns the least number of a vertex that is reached from it without this edge.
func (f *finder) enter(v, by int) int {
	f.last++
	f.numbers[v] = f.last
	least := f.last
	for _, i := range f.around[v] {
		if i == by {
			continue
		}
		w := f.edges[i][0] + f.edges[i][1] - v
		if f.numbers[w] > 0 {
			least = min(least, f.numbers[w])
			continue
		}
		low := f.enter(w, i)
		if low > f.numbers[v] {
			f.bridges = append(f.bridges, i)
		}
		least = min(least, low)
	}
	return least
}

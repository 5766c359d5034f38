package external

import (
	"heartwood/api"
	"heartwood/heap"
	"heartwood/refs"
)

// Place returns the placement of a kind.
func Place(d api.Desc, m api.Mem, kind, size int) ([]int, api.Errno) {
	if !heap.Valid(d, m) {
		return nil, api.ErrArg
	}
	if kind < byNumber || kind > inClusters || !isSize(size) {
		return nil, api.ErrRange
	}
	return placement(d, m, kind, size), api.OK
}

// placement returns the placement of a kind of a valid memory.
func placement(d api.Desc, m api.Mem, kind, size int) []int {
	switch kind {
	case byNumber:
		return blocks(nil, size, len(m.Nodes))
	case depthFirst:
		reached, _ := heap.Reachable(d, m)
		return blocks(reached, size, len(m.Nodes))
	case breadthFirst:
		return blocks(breadth(refs.Of(d), m), size, len(m.Nodes))
	}
	return clusters(d, m, size)
}

// complete returns all nodes: first those of an order, and then the others by their numbers.
func complete(order []int, nodes int) []int {
	in := make([]bool, nodes+1)
	for _, n := range order {
		in[n] = true
	}
	for n := 1; n <= nodes; n++ {
		if !in[n] {
			order = append(order, n)
		}
	}
	return order
}

// blocks returns the placement of all nodes, size after size ones of an order, which others follow.
func blocks(order []int, size, nodes int) []int {
	place := make([]int, nodes)
	for i, n := range complete(order, nodes) {
		place[n-1] = i / size
	}
	return place
}

// breadth returns the nodes that are reached, breadth first.
func breadth(f refs.Fields, m api.Mem) []int {
	var order []int
	seen := make([]bool, len(m.Nodes)+1)
	enter := func(nodes []int) {
		for _, n := range nodes {
			if !seen[n] {
				seen[n] = true
				order = append(order, n)
			}
		}
	}
	enter(refs.Parts(m.Globals, f.Globals))
	for i := 0; i < len(order); i++ {
		n := m.Nodes[order[i]-1]
		enter(refs.Parts(n.F, f.Types[n.Type]))
	}
	return order
}

// clusters returns the placement in clusters.
func clusters(d api.Desc, m api.Mem, size int) []int {
	f := refs.Of(d)
	reached, _ := heap.Reachable(d, m)
	place := make([]int, len(m.Nodes))
	placed := make([]bool, len(m.Nodes))
	block := 0
	for _, first := range complete(reached, len(m.Nodes)) {
		if placed[first-1] {
			continue
		}
		cluster := make([]int, 0, size)
		enter := func(nodes []int) {
			for _, n := range nodes {
				if len(cluster) < size && !placed[n-1] {
					placed[n-1] = true
					place[n-1] = block
					cluster = append(cluster, n)
				}
			}
		}
		enter([]int{first})
		for i := 0; i < len(cluster); i++ {
			n := m.Nodes[cluster[i]-1]
			enter(refs.Parts(n.F, f.Types[n.Type]))
		}
		block++
	}
	return place
}

// Fill returns a placement with a further node.
func Fill(place []int, size int) ([]int, api.Errno) {
	if !isSize(size) {
		return nil, api.ErrRange
	}
	f, ok := fillerOf(place, size)
	if !ok {
		return nil, api.ErrShape
	}
	if f.add(); len(f.place) > api.MaxNodes || f.last == api.MaxNodes {
		return nil, api.ErrMemory
	}
	return f.place, api.OK
}

// filler is a placement to which nodes are added.
type filler struct {
	place []int
	size  int
	last  int // the greatest number of a block, or -1
	count int // of the nodes in that block
}

// fillerOf returns a filler with a copy of a placement, and whether this is one.
func fillerOf(place []int, size int) (*filler, bool) {
	f := &filler{place: append([]int(nil), place...), size: size, last: -1}
	if len(place) > api.MaxNodes {
		return nil, false
	}
	counts := make([]int, api.MaxNodes)
	for _, block := range place {
		if block < 0 || block >= api.MaxNodes || counts[block] == size {
			return nil, false
		}
		counts[block]++
		f.last = max(f.last, block)
	}
	if f.last >= 0 {
		f.count = counts[f.last]
	}
	return f, true
}

// add places a further node.
func (f *filler) add() {
	if f.last < 0 || f.count == f.size {
		f.last++
		f.count = 0
	}
	f.count++
	f.place = append(f.place, f.last)
}

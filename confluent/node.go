package confluent

import (
	"slices"

	"heartwood/api"
	"heartwood/heap"
	"heartwood/refs"
)

// view returns what is reached from global variables of the store.
func (s *Store) view(globals []int) refs.View {
	return s.refs.Search(globals, func(id int) (int, []int) { return s.nodes[id-1].Type, s.nodes[id-1].F })
}

// union returns a view with the nodes of further ones after its own. A node that would be there twice is a new one the
// second time, with the identifier 0.
func (s *Store) union(first refs.View, others ...refs.View) refs.View {
	there := map[int]bool{}
	for _, id := range first.IDs {
		there[id] = true
	}
	for _, v := range others {
		offset := len(first.IDs)
		for i, n := range v.Mem.Nodes {
			fields := refs.Renamed(n.F, s.refs.Types[n.Type], func(node int) int { return node + offset })
			first.Mem.Nodes = append(first.Mem.Nodes, api.Node{Type: n.Type, F: fields})
			id := v.IDs[i]
			if there[id] {
				id = 0
			}
			first.IDs = append(first.IDs, id)
			there[v.IDs[i]] = true
		}
	}
	return first
}

// commit makes a version of the memory after a call, which has left the numbers of the nodes that there were before it.
func (s *Store) commit(before refs.View, after api.Mem, parents ...int) int {
	reached, _ := heap.Reachable(s.d, after)
	ids := make([]int, len(after.Nodes))
	copy(ids, before.IDs)
	s.forget(ids, before.Mem, after, reached)
	var fresh []int
	for _, n := range reached {
		if ids[n-1] == 0 {
			fresh = append(fresh, n)
			ids[n-1] = len(s.nodes) + len(fresh)
		}
	}
	id := func(n int) int { return ids[n-1] }
	for _, n := range fresh {
		x := after.Nodes[n-1]
		s.nodes = append(s.nodes, api.Node{Type: x.Type, F: refs.Renamed(x.F, s.refs.Types[x.Type], id)})
	}
	v := version{parents: parents, globals: refs.Renamed(after.Globals, s.refs.Globals, id), size: len(reached)}
	for _, p := range parents {
		v.paths = min(v.paths+s.versions[p].paths, api.MaxInt)
	}
	s.versions = append(s.versions, v)
	return len(s.versions) - 1
}

// forget makes the identifiers 0 of nodes that cannot be shared: those that were changed, and those that lead to a node
// that is not shared.
func (s *Store) forget(ids []int, before, after api.Mem, reached []int) {
	users := make([][]int, len(after.Nodes))
	var lost []int
	for _, n := range reached {
		x := after.Nodes[n-1]
		for _, part := range refs.Parts(x.F, s.refs.Types[x.Type]) {
			users[part-1] = append(users[part-1], n)
		}
		if ids[n-1] == 0 || !slices.Equal(x.F, before.Nodes[n-1].F) {
			lost = append(lost, n)
		}
	}
	for len(lost) > 0 {
		n := lost[len(lost)-1]
		lost = lost[:len(lost)-1]
		ids[n-1] = 0
		for _, u := range users[n-1] {
			if ids[u-1] != 0 {
				lost = append(lost, u)
			}
		}
	}
}

package persistent

import (
	"slices"

	"heartwood/api"
	"heartwood/refs"
	"heartwood/versiontree"
)

// node is a node of the store, as it was after the call that allocated it, with what later calls changed.
type node struct {
	typ     int
	fields  []int
	changes []change // in the order of the versions
}

// change is a record: a field has another value from a version on.
type change struct{ version, field, value int }

// view finds the snapshot of a version.
func (s *Store) view(version int) refs.View {
	seen := s.seen(version)
	return s.refs.Search(s.globals[version], func(id int) (int, []int) { return s.nodes[id-1].typ, s.nodes[id-1].after(seen) })
}

// seen tells of all versions whether their changes are seen in a version: whether they are its ancestors.
func (s *Store) seen(version int) []bool {
	seen := make([]bool, len(s.globals))
	path, _ := versiontree.Path(s.tree.Tree(), version)
	for _, ancestor := range path {
		seen[ancestor] = true
	}
	return seen
}

// after returns the fields of a node after the changes that are seen. These were made by versions that are on one path,
// so the last one of a field is the nearest one.
func (n node) after(seen []bool) []int {
	fields := slices.Clone(n.fields)
	for _, c := range n.changes {
		if seen[c.version] {
			fields[c.field] = c.value
		}
	}
	return fields
}

// commit makes a version of the memory after a call in a version. The call has left the numbers of the nodes that there
// were before it.
func (s *Store) commit(parent int, before refs.View, after api.Mem) int {
	version, _ := s.tree.Branch(parent)
	ids := before.IDs
	for i := range after.Nodes[len(before.IDs):] {
		ids = append(ids, len(s.nodes)+i+1)
	}
	id := func(n int) int { return ids[n-1] }
	for i, n := range after.Nodes {
		fields := refs.Renamed(n.F, s.refs.Types[n.Type], id)
		if i >= len(before.IDs) {
			s.nodes = append(s.nodes, node{typ: n.Type, fields: fields})
			continue
		}
		x := &s.nodes[ids[i]-1]
		for k, value := range before.Mem.Nodes[i].F {
			if n.F[k] != value {
				x.changes = append(x.changes, change{version, k, fields[k]})
			}
		}
	}
	s.globals = append(s.globals, refs.Renamed(after.Globals, s.refs.Globals, id))
	return version
}

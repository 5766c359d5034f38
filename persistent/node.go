package persistent

import (
	"slices"

	"heartwood/api"
	"heartwood/versiontree"
)

// node is a node of the store, as it was after the call that allocated it, with what later calls changed.
type node struct {
	typ     int
	fields  []int
	changes []change // in the order of the versions
}

// change is a record: a field has another value from a version on.
type change struct{ version, field, value int }

// references tells which global variables, and which fields of each type, are references.
type references struct {
	globals []bool
	types   [][]bool
}

func referencesOf(d api.Desc) references {
	r := references{globals: areReferences(d.Globals)}
	for _, t := range d.Types {
		r.types = append(r.types, areReferences(t.Fields))
	}
	return r
}

func areReferences(l []api.Field) []bool {
	are := make([]bool, len(l))
	for i, f := range l {
		are[i] = f.Type != "int" && f.Type != "bool"
	}
	return are
}

// renamed returns values whose references are replaced.
func renamed(values []int, are []bool, name func(int) int) []int {
	l := slices.Clone(values)
	for i, is := range are {
		if is {
			l[i] = name(l[i])
		}
	}
	return l
}

// view is the snapshot of a version, with the number in the store of each of its nodes.
type view struct {
	mem api.Mem
	ids []int
}

// view finds the snapshot of a version, by the search that numbers the nodes of a canonical memory.
func (s *Store) view(version int) view {
	var v view
	seen := s.seen(version)
	numbers := map[int]int{0: 0}
	var enter func(id int) int
	enter = func(id int) int {
		if n, known := numbers[id]; known {
			return n
		}
		v.ids = append(v.ids, id)
		n := len(v.ids)
		numbers[id] = n
		typ := s.nodes[id-1].typ
		v.mem.Nodes = append(v.mem.Nodes, api.Node{Type: typ})
		fields := renamed(s.fields(id, seen), s.refs.types[typ], enter)
		v.mem.Nodes[n-1].F = fields
		return n
	}
	v.mem.Globals = renamed(s.globals[version], s.refs.globals, enter)
	return v
}

// seen tells of all versions whether their changes are seen in a version: whether they are its ancestors.
func (s *Store) seen(version int) []bool {
	seen := make([]bool, len(s.globals))
	path, _ := versiontree.Path(s.tree.Tree(), version)
	for _, ancestor := range path {
		seen[ancestor] = true
	}
	return seen
}

// fields returns the fields of a node after the changes that are seen. These were made by versions that are on one
// path, so the last one of a field is the nearest one.
func (s *Store) fields(id int, seen []bool) []int {
	n := s.nodes[id-1]
	fields := slices.Clone(n.fields)
	for _, c := range n.changes {
		if seen[c.version] {
			fields[c.field] = c.value
		}
	}
	return fields
}

// commit makes a version of the memory after a call in a version. The call has left the numbers of the nodes that there
// were before it.
func (s *Store) commit(parent int, before view, after api.Mem) int {
	version, _ := s.tree.Branch(parent)
	ids := before.ids
	for i := range after.Nodes[len(before.ids):] {
		ids = append(ids, len(s.nodes)+i+1)
	}
	store := func(n int) int {
		if n == 0 {
			return 0
		}
		return ids[n-1]
	}
	for i, n := range after.Nodes {
		fields := renamed(n.F, s.refs.types[n.Type], store)
		if i >= len(before.ids) {
			s.nodes = append(s.nodes, node{typ: n.Type, fields: fields})
			continue
		}
		x := &s.nodes[ids[i]-1]
		for k, value := range before.mem.Nodes[i].F {
			if n.F[k] != value {
				x.changes = append(x.changes, change{version, k, fields[k]})
			}
		}
	}
	s.globals = append(s.globals, renamed(after.Globals, s.refs.globals, store))
	return version
}

// Package refs finds the references of memories: which fields are references, and what is reached by them, for the
// layers that keep nodes in stores of their own.
package refs

import (
	"slices"

	"heartwood/api"
)

// Fields tells which global variables, and which fields of each type, are references.
type Fields struct {
	Globals []bool
	Types   [][]bool
}

// Of returns the references of a description that has types.
func Of(d api.Desc) Fields {
	r := Fields{Globals: areReferences(d.Globals)}
	for _, t := range d.Types {
		r.Types = append(r.Types, areReferences(t.Fields))
	}
	return r
}

func areReferences(l []api.Field) []bool {
	are := make([]bool, len(l))
	for i, f := range l {
		are[i] = f.Type != "int" && f.Type != "bool"
	}
	return are
}

// Renamed returns values whose references, other than nil, are replaced.
func Renamed(values []int, are []bool, name func(int) int) []int {
	l := slices.Clone(values)
	for i, is := range are {
		if is && l[i] != 0 {
			l[i] = name(l[i])
		}
	}
	return l
}

// Parts returns the references of values, other than nil, in order.
func Parts(values []int, are []bool) []int {
	var parts []int
	for i, is := range are {
		if is && values[i] != 0 {
			parts = append(parts, values[i])
		}
	}
	return parts
}

// View is a canonical memory, with the identifiers in a store of its nodes.
type View struct {
	Mem api.Mem
	IDs []int
}

// Search returns what is reached from global variables, whose references are identifiers; node returns the type and the
// fields of a node with an identifier. Nodes are numbered as the search of layer 12 enters them.
func (f Fields) Search(globals []int, node func(id int) (int, []int)) View {
	var v View
	numbers := map[int]int{}
	var enter func(id int) int
	enter = func(id int) int {
		if n, known := numbers[id]; known {
			return n
		}
		v.IDs = append(v.IDs, id)
		n := len(v.IDs)
		numbers[id] = n
		typ, fields := node(id)
		v.Mem.Nodes = append(v.Mem.Nodes, api.Node{Type: typ})
		fields = Renamed(fields, f.Types[typ], enter)
		v.Mem.Nodes[n-1].F = fields
		return n
	}
	v.Mem.Globals = Renamed(globals, f.Globals, enter)
	return v
}

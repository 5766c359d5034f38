package heap

import (
	"heartwood/api"
	"heartwood/ast"
)

// kind is what a field or a global variable has as its value: an integer, a boolean, or a reference to a node of the
// type with this index.
type kind int

const (
	integer kind = -2
	boolean kind = -1
)

// layout has the kinds of the global variables, and of the fields of each type.
type layout struct {
	globals []kind
	types   [][]kind
}

// layoutOf returns the layout of a description, and whether this has types.
func layoutOf(d api.Desc) (layout, bool) {
	if !ast.Valid(d) {
		return layout{}, false
	}
	indices := map[string]int{}
	for i, t := range d.Types {
		indices[t.Name] = i
	}
	if len(indices) < len(d.Types) {
		return layout{}, false
	}
	var l layout
	var known bool
	if l.globals, known = kindsOf(d.Globals, indices); !known {
		return layout{}, false
	}
	for _, t := range d.Types {
		kinds, known := kindsOf(t.Fields, indices)
		if !known {
			return layout{}, false
		}
		l.types = append(l.types, kinds)
	}
	return l, true
}

func kindsOf(fields []api.Field, indices map[string]int) ([]kind, bool) {
	l := make([]kind, len(fields))
	for i, f := range fields {
		switch f.Type {
		case "int":
			l[i] = integer
		case "bool":
			l[i] = boolean
		default:
			k, known := indices[f.Type]
			if !known {
				return nil, false
			}
			l[i] = kind(k)
		}
	}
	return l, true
}

// layoutFor returns the layout of a description, and whether a memory is valid for it.
func layoutFor(d api.Desc, m api.Mem) (layout, bool) {
	l, ok := layoutOf(d)
	return l, ok && l.valid(m)
}

func (l layout) valid(m api.Mem) bool {
	if len(m.Nodes) > api.MaxNodes || !rightAll(m, l.globals, m.Globals) {
		return false
	}
	for _, n := range m.Nodes {
		if n.Type < 0 || n.Type >= len(l.types) || !rightAll(m, l.types[n.Type], n.F) {
			return false
		}
	}
	return true
}

func rightAll(m api.Mem, kinds []kind, values []int) bool {
	if len(kinds) != len(values) {
		return false
	}
	for i, k := range kinds {
		if !right(m, k, values[i]) {
			return false
		}
	}
	return true
}

// right reports whether a value is right for a kind.
func right(m api.Mem, k kind, value int) bool {
	switch k {
	case integer:
		return value >= -api.MaxInt && value <= api.MaxInt
	case boolean:
		return value == 0 || value == 1
	}
	return value == 0 || value > 0 && value <= len(m.Nodes) && m.Nodes[value-1].Type == int(k)
}

// place returns the values of a node, or the global variables, and the kind of a field, if there is one.
func (l layout) place(m api.Mem, node, field int) ([]int, kind, bool) {
	if node < 0 || node > len(m.Nodes) {
		return nil, 0, false
	}
	values, kinds := m.Globals, l.globals
	if node > 0 {
		values, kinds = m.Nodes[node-1].F, l.types[m.Nodes[node-1].Type]
	}
	if field < 0 || field >= len(kinds) {
		return nil, 0, false
	}
	return values, kinds[field], true
}

// found is what a search finds.
type found struct {
	order   []int // the nodes that are reached, as they are entered
	numbers []int // for each node its place in the order, from 1 on, or 0; before them one for nil
	again   int   // the first node that is reached once more, or 0
}

func (l layout) search(m api.Mem) found {
	f := found{numbers: make([]int, len(m.Nodes)+1)}
	var look func(kinds []kind, values []int)
	look = func(kinds []kind, values []int) {
		for i, k := range kinds {
			node := values[i]
			switch {
			case k < 0 || node == 0:
			case f.numbers[node] == 0:
				f.order = append(f.order, node)
				f.numbers[node] = len(f.order)
				look(l.types[k], m.Nodes[node-1].F)
			case f.again == 0:
				f.again = node
			}
		}
	}
	look(l.globals, m.Globals)
	return f
}

func (l layout) canonical(m api.Mem) api.Mem {
	f := l.search(m)
	rename := func(kinds []kind, values []int) []int {
		r := make([]int, len(values))
		for i, k := range kinds {
			r[i] = values[i]
			if k >= 0 {
				r[i] = f.numbers[values[i]]
			}
		}
		return r
	}
	r := api.Mem{Globals: rename(l.globals, m.Globals)}
	for _, node := range f.order {
		n := m.Nodes[node-1]
		r.Nodes = append(r.Nodes, api.Node{Type: n.Type, F: rename(l.types[n.Type], n.F)})
	}
	return r
}

package machine

import (
	"slices"

	"heartwood/api"
)

// Fits reports whether a memory fits a code.
func Fits(c api.Code, m api.Mem) bool {
	if len(m.Globals) != c.Globals || len(m.Nodes) > api.MaxNodes || !AreValues(m.Globals) {
		return false
	}
	return !slices.ContainsFunc(m.Nodes, func(n api.Node) bool {
		return n.Type < 0 || n.Type >= len(c.Fields) || len(n.F) != c.Fields[n.Type] || !AreValues(n.F)
	})
}

// Find returns the access that a request makes to a memory, and whether there is such a place. An allocation that fails
// is no access.
func Find(m api.Mem, q api.Request) (api.Access, bool) {
	switch {
	case q.Kind == api.Alloc && len(m.Nodes) == api.MaxNodes:
		return api.Access{}, true
	case q.Kind == api.Alloc:
		return api.Access{Kind: api.Alloc, Node: len(m.Nodes) + 1, Field: q.Field}, true
	case q.Node > len(m.Nodes) || q.Field >= len(Values(m, q.Node)):
		return api.Access{}, false
	}
	return api.Access{Kind: q.Kind, Node: q.Node, Field: q.Field}, true
}

// Values returns the fields of a node, or, for the number 0, the global variables.
func Values(m api.Mem, node int) []int {
	if node == 0 {
		return m.Globals
	}
	return m.Nodes[node-1].F
}

// Access makes the access of a request to a memory; it returns the answer, the access, and whether there is such a place.
func Access(c api.Code, m *api.Mem, q api.Request) (int, api.Access, bool) {
	a, ok := Find(*m, q)
	switch a.Kind {
	case api.Alloc:
		m.Nodes = append(m.Nodes, api.Node{Type: q.Field, F: make([]int, c.Fields[q.Field])})
		return a.Node, a, true
	case api.Read:
		return Values(*m, a.Node)[a.Field], a, true
	case api.Write:
		Values(*m, a.Node)[a.Field] = q.Value
	}
	return 0, a, ok
}

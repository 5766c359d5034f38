package vm

import (
	"slices"

	"heartwood/api"
	"heartwood/copies"
)

// server answers requests from a memory, which it changes, and notes the accesses.
type server struct {
	c        api.Code
	mem      api.Mem
	accesses []api.Access
	nodes    int // accesses that are not to global variables
}

// served runs a call over a copy of a memory.
func served(c api.Code, m api.Mem, call api.Call, fuel int) (*server, api.Outcome, api.Errno) {
	if !sound(c) || !fitsMemory(c, m) {
		return nil, api.Outcome{}, api.ErrArg
	}
	r, err := started(c, call, fuel)
	if err != api.OK {
		return nil, api.Outcome{}, err
	}
	s := &server{c: c, mem: copies.Mem(m)}
	var o api.Outcome
	for r.m.Request.Kind < api.Done {
		n, ok := s.answer(r.m.Request)
		if !ok {
			r.fail(api.ErrType)
			break
		}
		r.answer(n)
	}
	o.Fault, o.Value = r.m.Request.Fault, r.m.Request.Value
	o.Cost = api.Cost{Compares: r.m.Compares, Nodes: s.nodes}
	return s, o, api.OK
}

func fitsMemory(c api.Code, m api.Mem) bool {
	if len(m.Globals) != c.Globals || len(m.Nodes) > api.MaxNodes || !areValues(m.Globals) {
		return false
	}
	return !slices.ContainsFunc(m.Nodes, func(n api.Node) bool {
		return n.Type < 0 || n.Type >= len(c.Fields) || len(n.F) != c.Fields[n.Type] || !areValues(n.F)
	})
}

// answer makes an access, and reports whether there is such a place.
func (s *server) answer(q api.Request) (int, bool) {
	if q.Kind == api.Alloc {
		if len(s.mem.Nodes) == api.MaxNodes {
			return 0, true
		}
		s.mem.Nodes = append(s.mem.Nodes, api.Node{Type: q.Field, F: make([]int, s.c.Fields[q.Field])})
		s.note(api.Alloc, len(s.mem.Nodes), q.Field)
		return len(s.mem.Nodes), true
	}
	values := s.mem.Globals
	if q.Node > len(s.mem.Nodes) {
		return 0, false
	}
	if q.Node > 0 {
		values = s.mem.Nodes[q.Node-1].F
	}
	if q.Field >= len(values) {
		return 0, false
	}
	s.note(q.Kind, q.Node, q.Field)
	if q.Kind == api.Write {
		values[q.Field] = q.Value
		return 0, true
	}
	return values[q.Field], true
}

func (s *server) note(kind, node, field int) {
	if node > 0 {
		s.nodes++
	}
	s.accesses = append(s.accesses, api.Access{Kind: kind, Node: node, Field: field})
}

// Package copies copies descriptions, memories, and other values with parts, so that a copy shares no memory with what
// it was made of. Values with parts must not contain themselves.
package copies

import (
	"slices"

	"heartwood/api"
)

// Each returns the copies of the elements of a list.
func Each[T any](l []T, copied func(T) T) []T {
	r := make([]T, len(l))
	for i, x := range l {
		r[i] = copied(x)
	}
	return r
}

// Desc copies a description.
func Desc(d api.Desc) api.Desc {
	d.Types = Each(d.Types, func(t api.NodeType) api.NodeType {
		t.Fields = slices.Clone(t.Fields)
		return t
	})
	d.Globals = slices.Clone(d.Globals)
	d.Procs = Each(d.Procs, Proc)
	d.Measures = Each(d.Measures, func(x api.Measure) api.Measure {
		x.X = Expr(x.X)
		return x
	})
	d.Invariants = Each(d.Invariants, func(x api.Invariant) api.Invariant {
		x.X = Expr(x.X)
		return x
	})
	d.Potentials = Each(d.Potentials, func(x api.Potential) api.Potential {
		x.X = Expr(x.X)
		return x
	})
	d.Bounds = Each(d.Bounds, func(x api.Bound) api.Bound {
		x.X = Expr(x.X)
		return x
	})
	return d
}

// Proc copies a procedure.
func Proc(p api.Proc) api.Proc {
	p.Params, p.Locals, p.Body = slices.Clone(p.Params), slices.Clone(p.Locals), Each(p.Body, stmt)
	return p
}

func stmt(s api.Stmt) api.Stmt {
	s.E, s.L, s.Else = Each(s.E, Expr), Each(s.L, stmt), Each(s.Else, stmt)
	return s
}

// Expr copies an expression.
func Expr(e api.Expr) api.Expr {
	e.L = Each(e.L, Expr)
	return e
}

// Mem copies a memory.
func Mem(m api.Mem) api.Mem {
	return api.Mem{Globals: slices.Clone(m.Globals), Nodes: Each(m.Nodes, func(n api.Node) api.Node {
		n.F = slices.Clone(n.F)
		return n
	})}
}

// Machine copies a machine.
func Machine(m api.Machine) api.Machine {
	m.Frames = Each(m.Frames, func(f api.Frame) api.Frame {
		f.Locals, f.Stack = slices.Clone(f.Locals), slices.Clone(f.Stack)
		return f
	})
	return m
}

// Calls copies lists of calls.
func Calls(l [][]api.Call) [][]api.Call {
	return Each(l, func(l []api.Call) []api.Call {
		return Each(l, func(c api.Call) api.Call { return api.Call{Proc: c.Proc, Args: slices.Clone(c.Args)} })
	})
}

package ast

import (
	"slices"

	"heartwood/api"
)

// Same reports whether two descriptions are equal in all parts.
func Same(a, b api.Desc) bool {
	c := newComparer()
	return a.Name == b.Name && slices.Equal(a.Globals, b.Globals) && slices.EqualFunc(a.Types, b.Types, sameType) &&
		slices.EqualFunc(a.Procs, b.Procs, c.proc) && slices.EqualFunc(a.Measures, b.Measures, c.measure) && slices.EqualFunc(a.Invariants, b.Invariants, c.invariant) &&
		slices.EqualFunc(a.Potentials, b.Potentials, c.potential) && slices.EqualFunc(a.Bounds, b.Bounds, c.bound)
}

// SameExpr reports whether two expressions are equal in all parts.
func SameExpr(a, b api.Expr) bool { return newComparer().expr(a, b) }

// comparer knows which lists have been compared already. Arguments need not be valid: their parts may be shared, or
// contain themselves.
type comparer struct {
	exprs map[[2]*api.Expr]bool
	stmts map[[2]*api.Stmt]bool
}

func newComparer() comparer {
	return comparer{map[[2]*api.Expr]bool{}, map[[2]*api.Stmt]bool{}}
}

// once reports whether two lists are equal. Two lists that have been met before are: a difference ends everything.
func once[T any](known map[[2]*T]bool, a, b []T, same func(x, y T) bool) bool {
	if len(a) != len(b) || len(a) == 0 {
		return len(a) == len(b)
	}
	key := [2]*T{&a[0], &b[0]}
	if known[key] {
		return true
	}
	known[key] = true
	return slices.EqualFunc(a, b, same)
}

func (c comparer) expr(a, b api.Expr) bool {
	return a.Op == b.Op && a.N == b.N && a.S == b.S && once(c.exprs, a.L, b.L, c.expr)
}

func (c comparer) stmt(a, b api.Stmt) bool {
	return a.Op == b.Op && a.S == b.S && once(c.exprs, a.E, b.E, c.expr) && once(c.stmts, a.L, b.L, c.stmt) && once(c.stmts, a.Else, b.Else, c.stmt)
}

func (c comparer) proc(a, b api.Proc) bool {
	return a.Name == b.Name && a.Result == b.Result && slices.Equal(a.Params, b.Params) && slices.Equal(a.Locals, b.Locals) && once(c.stmts, a.Body, b.Body, c.stmt)
}

func (c comparer) measure(a, b api.Measure) bool {
	return a.Name == b.Name && a.Type == b.Type && a.Nil == b.Nil && c.expr(a.X, b.X)
}

func (c comparer) invariant(a, b api.Invariant) bool {
	return a.Name == b.Name && a.Type == b.Type && c.expr(a.X, b.X)
}

func (c comparer) potential(a, b api.Potential) bool { return a.Type == b.Type && c.expr(a.X, b.X) }

func (c comparer) bound(a, b api.Bound) bool { return a.Proc == b.Proc && c.expr(a.X, b.X) }

func sameType(a, b api.NodeType) bool {
	return a.Name == b.Name && slices.Equal(a.Fields, b.Fields)
}

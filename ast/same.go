package ast

import (
	"slices"

	"heartwood/api"
)

// Same reports whether two descriptions are equal in all parts.
func Same(a, b api.Desc) bool {
	return a.Name == b.Name && slices.Equal(a.Globals, b.Globals) && slices.EqualFunc(a.Types, b.Types, sameType) &&
		slices.EqualFunc(a.Procs, b.Procs, sameProc) && slices.EqualFunc(a.Measures, b.Measures, sameMeasure) && slices.EqualFunc(a.Invariants, b.Invariants, sameInvariant) &&
		slices.EqualFunc(a.Potentials, b.Potentials, samePotential) && slices.EqualFunc(a.Bounds, b.Bounds, sameBound)
}

// SameExpr reports whether two expressions are equal in all parts.
func SameExpr(a, b api.Expr) bool {
	return a.Op == b.Op && a.N == b.N && a.S == b.S && slices.EqualFunc(a.L, b.L, SameExpr)
}

func sameType(a, b api.NodeType) bool {
	return a.Name == b.Name && slices.Equal(a.Fields, b.Fields)
}

func sameStmt(a, b api.Stmt) bool {
	return a.Op == b.Op && a.S == b.S && slices.EqualFunc(a.E, b.E, SameExpr) && slices.EqualFunc(a.L, b.L, sameStmt) && slices.EqualFunc(a.Else, b.Else, sameStmt)
}

func sameProc(a, b api.Proc) bool {
	return a.Name == b.Name && a.Result == b.Result && slices.Equal(a.Params, b.Params) && slices.Equal(a.Locals, b.Locals) && slices.EqualFunc(a.Body, b.Body, sameStmt)
}

func sameMeasure(a, b api.Measure) bool {
	return a.Name == b.Name && a.Type == b.Type && a.Nil == b.Nil && SameExpr(a.X, b.X)
}

func sameInvariant(a, b api.Invariant) bool {
	return a.Name == b.Name && a.Type == b.Type && SameExpr(a.X, b.X)
}

func samePotential(a, b api.Potential) bool { return a.Type == b.Type && SameExpr(a.X, b.X) }

func sameBound(a, b api.Bound) bool { return a.Proc == b.Proc && SameExpr(a.X, b.X) }

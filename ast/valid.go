package ast

import (
	"heartwood/api"
	"heartwood/lex"
)

func all[T any](l []T, f func(T) bool) bool {
	for i := range l {
		if !f(l[i]) {
			return false
		}
	}
	return true
}

// validNode reports whether a node of an expression has the parts and the fields that its Op asks for.
func validNode(e api.Expr) bool {
	switch e.Op {
	case api.XInt:
		return e.N >= 0 && e.N <= api.MaxInt && e.S == "" && len(e.L) == 0
	case api.XBool:
		return (e.N == 0 || e.N == 1) && e.S == "" && len(e.L) == 0
	case api.XName:
		return e.N == 0 && (lex.IsName(e.S) || e.S == "this") && len(e.L) == 0
	case api.XNew:
		return e.N == 0 && lex.IsName(e.S) && len(e.L) == 0
	case api.XField:
		return e.N == 0 && lex.IsName(e.S) && len(e.L) == 1
	case api.XCall:
		return e.N == 0 && lex.IsName(e.S) && len(e.L) <= api.MaxParams
	}
	parts, known := partsOf(e.Op)
	return known && e.N == 0 && e.S == "" && len(e.L) == parts
}

// partsOf returns the number of parts of the operators that have nothing else.
func partsOf(op int) (int, bool) {
	switch op {
	case api.XNil:
		return 0, true
	case api.XNeg, api.XNot, api.XLog:
		return 1, true
	case api.XIf:
		return 3, true
	}
	return 2, op >= api.XAdd && op <= api.XMin
}

func isType(s string) bool { return s == "int" || s == "bool" || lex.IsName(s) }

func isFreeType(s string) bool { return s == "" || isType(s) }

func isFreeName(s string) bool { return s == "" || lex.IsName(s) }

func validField(f api.Field) bool { return lex.IsName(f.Name) && isType(f.Type) }

// validHead reports whether the limits on lists are kept, and the types and global variables are valid.
func validHead(d api.Desc) bool {
	return lex.IsName(d.Name) && len(d.Types) <= api.MaxTypes && len(d.Globals) <= api.MaxGlobals && len(d.Procs) <= api.MaxProcs &&
		len(d.Measures) <= api.MaxMeasures && len(d.Invariants) <= api.MaxMeasures && len(d.Potentials) <= api.MaxMeasures && len(d.Bounds) <= api.MaxMeasures &&
		all(d.Types, validNodeType) && all(d.Globals, validField)
}

func validNodeType(t api.NodeType) bool {
	return lex.IsName(t.Name) && len(t.Fields) <= api.MaxFields && all(t.Fields, validField)
}

func validProc(p api.Proc) bool {
	count := 0
	return lex.IsName(p.Name) && isFreeType(p.Result) && len(p.Params) <= api.MaxParams && len(p.Locals) <= api.MaxLocals &&
		all(p.Params, validField) && all(p.Locals, validField) && validStmts(p.Body, 1, &count)
}

// validStmts reports whether statements with a depth are valid; count is the number of those that came before.
func validStmts(l []api.Stmt, depth int, count *int) bool {
	return all(l, func(s api.Stmt) bool {
		*count++
		return *count <= api.MaxStmts && depth <= api.MaxNest && validStmt(s) && all(s.E, ValidExpr) && validStmts(s.L, depth+1, count) && validStmts(s.Else, depth+1, count)
	})
}

// validStmt reports whether a statement has the parts that its Op asks for, whether they are valid or not.
func validStmt(s api.Stmt) bool {
	simple := len(s.L) == 0 && len(s.Else) == 0
	switch s.Op {
	case api.SSet:
		return simple && lex.IsName(s.S) && len(s.E) == 1
	case api.SPut:
		return simple && lex.IsName(s.S) && len(s.E) == 2
	case api.SIf:
		return s.S == "" && len(s.E) == 1
	case api.SWhile:
		return s.S == "" && len(s.E) == 1 && len(s.Else) == 0
	case api.SReturn:
		return simple && s.S == "" && len(s.E) <= 1
	case api.SCall:
		return simple && s.S == "" && len(s.E) == 1 && s.E[0].Op == api.XCall
	}
	return false
}

func validMeasure(m api.Measure) bool {
	return lex.IsName(m.Name) && lex.IsName(m.Type) && m.Nil >= -api.MaxInt && m.Nil <= api.MaxInt && ValidExpr(m.X)
}

func validInvariant(i api.Invariant) bool {
	return lex.IsName(i.Name) && isFreeName(i.Type) && ValidExpr(i.X)
}

func validPotential(p api.Potential) bool { return isFreeName(p.Type) && ValidExpr(p.X) }

func validBound(b api.Bound) bool { return lex.IsName(b.Proc) && ValidExpr(b.X) }

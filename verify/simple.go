package verify

import "heartwood/api"

// maxConstant is the greatest absolute value of a constant.
const maxConstant = 1000

// constant returns the value of a constant.
func constant(e api.Expr) (int, bool) {
	sign := 1
	if e.Op == api.XNeg {
		sign, e = -1, e.L[0]
	}
	return sign * e.N, e.Op == api.XInt && e.N <= maxConstant
}

// splitTerm returns the base of a term, or nil, and the constant that is added. What is returned as a base need not
// be one.
func splitTerm(e api.Expr) (*api.Expr, int) {
	if n, ok := constant(e); ok {
		return nil, n
	}
	if e.Op == api.XAdd || e.Op == api.XSub {
		if n, ok := constant(e.L[1]); ok {
			if e.Op == api.XSub {
				n = -n
			}
			return &e.L[0], n
		}
	}
	return &e, 0
}

func (v *verifier) isTerm(e api.Expr) bool {
	base, _ := splitTerm(e)
	return base == nil || v.placeType(*base) == "int"
}

// placeType returns the type of a variable, or of a field of a reference, and nothing for other expressions.
func (v *verifier) placeType(e api.Expr) string {
	switch e.Op {
	case api.XName:
		return v.vars[e.S]
	case api.XField:
		t, node := v.types[v.placeType(e.L[0])]
		if !node {
			return ""
		}
		for _, f := range v.d.Types[t].Fields {
			if f.Name == e.S {
				return f.Type
			}
		}
	}
	return ""
}

func (v *verifier) isReference(e api.Expr) bool {
	_, node := v.types[v.placeType(e)]
	return node || e.Op == api.XNil
}

func (v *verifier) isCondition(e api.Expr) bool {
	switch e.Op {
	case api.XBool:
		return true
	case api.XNot:
		return v.isCondition(e.L[0])
	case api.XAnd, api.XOr:
		return v.isCondition(e.L[0]) && v.isCondition(e.L[1])
	case api.XLess, api.XLessEqual:
		return v.isTerm(e.L[0]) && v.isTerm(e.L[1])
	case api.XEqual, api.XNotEqual:
		return v.isTerm(e.L[0]) && v.isTerm(e.L[1]) || v.isReference(e.L[0]) && v.isReference(e.L[1])
	}
	return false
}

func (v *verifier) isValue(e api.Expr) bool {
	return e.Op == api.XNew || v.isTerm(e) || v.isReference(e)
}

func (v *verifier) simpleProc() bool { return v.simpleStmts(v.proc.Body) }

func (v *verifier) simpleStmts(l []api.Stmt) bool {
	for _, s := range l {
		if !v.simpleStmt(s) || !v.simpleStmts(s.L) || !v.simpleStmts(s.Else) {
			return false
		}
	}
	return true
}

func (v *verifier) simpleStmt(s api.Stmt) bool {
	switch s.Op {
	case api.SSet:
		return v.isValue(s.E[0])
	case api.SPut:
		return v.isReference(s.E[0]) && v.isValue(s.E[1])
	case api.SIf:
		return v.isCondition(s.E[0])
	case api.SReturn:
		return len(s.E) == 0 || v.isValue(s.E[0]) || v.isCondition(s.E[0])
	}
	return false
}

// term is a base, the index of a field or a global variable, or -1 for none, and an integer.
type term struct{ base, plus int }

// atom is a comparison of two terms.
type atom struct {
	op          int
	left, right term
}

// atomsOf returns the atoms of an invariant, or nil if it is not simple.
func (v *verifier) atomsOf(x api.Invariant) []atom {
	fields := v.d.Globals
	if x.Type != "" {
		fields = v.d.Types[v.types[x.Type]].Fields
	}
	return atomsIn(x.X, func(e api.Expr) (int, bool) {
		if x.Type == "" && e.Op != api.XName || x.Type != "" && (e.Op != api.XField || e.L[0].Op != api.XName || e.L[0].S != "this") {
			return 0, false
		}
		for i, f := range fields {
			if f.Name == e.S {
				return i, f.Type == "int"
			}
		}
		return 0, false
	})
}

// atomsIn returns the atoms of an expression, whose bases a function knows.
func atomsIn(e api.Expr, base func(api.Expr) (int, bool)) []atom {
	switch e.Op {
	case api.XAnd:
		left, right := atomsIn(e.L[0], base), atomsIn(e.L[1], base)
		if left == nil || right == nil {
			return nil
		}
		return append(left, right...)
	case api.XLess, api.XLessEqual, api.XEqual:
		left, ok1 := termIn(e.L[0], base)
		right, ok2 := termIn(e.L[1], base)
		if ok1 && ok2 {
			return []atom{{e.Op, left, right}}
		}
	}
	return nil
}

func termIn(e api.Expr, base func(api.Expr) (int, bool)) (term, bool) {
	b, plus := splitTerm(e)
	if b == nil {
		return term{-1, plus}, true
	}
	i, ok := base(*b)
	return term{i, plus}, ok
}

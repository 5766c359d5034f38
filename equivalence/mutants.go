package equivalence

import (
	"heartwood/api"
	"heartwood/copies"
)

// Mutants returns the mutants of a description.
func Mutants(d api.Desc) ([]api.Desc, api.Errno) {
	if !isSound(d) {
		return nil, api.ErrArg
	}
	var l []api.Desc
	for len(l) < api.MaxList {
		m, found := mutant(d, len(l))
		if !found {
			break
		}
		l = append(l, m)
	}
	return l, api.OK
}

// mutant returns the mutant with a number, and whether there is one.
func mutant(d api.Desc, number int) (api.Desc, bool) {
	d = copies.Desc(d)
	found := false
	for _, p := range d.Procs {
		visit(p.Body, func(e *api.Expr) {
			if changed := *e; !found && change(&changed) {
				if found = number == 0; found {
					*e = changed
				}
				number--
			}
		})
	}
	return d, found
}

// visit goes through the expressions of statements, in preorder.
func visit(l []api.Stmt, see func(*api.Expr)) {
	for _, s := range l {
		visitExprs(s.E, see)
		visit(s.L, see)
		visit(s.Else, see)
	}
}

func visitExprs(l []api.Expr, see func(*api.Expr)) {
	for i := range l {
		see(&l[i])
		visitExprs(l[i].L, see)
	}
}

// change changes an expression, and reports whether this is possible.
func change(e *api.Expr) bool {
	switch {
	case e.Op == api.XInt && e.N < api.MaxInt:
		e.N++
	case e.Op == api.XBool:
		e.N = 1 - e.N
	case opposite(e.Op) != 0:
		e.Op = opposite(e.Op)
	default:
		return false
	}
	return true
}

// opposite returns the operator that an operator becomes, or 0.
func opposite(op int) int {
	pairs := [][2]int{{api.XAdd, api.XSub}, {api.XLess, api.XLessEqual}, {api.XEqual, api.XNotEqual}, {api.XAnd, api.XOr}, {api.XMax, api.XMin}}
	for _, p := range pairs {
		switch op {
		case p[0]:
			return p[1]
		case p[1]:
			return p[0]
		}
	}
	return 0
}

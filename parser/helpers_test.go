package parser_test

import (
	"heartwood/api"
)

func x(op int, parts ...api.Expr) api.Expr { return api.Expr{Op: op, L: parts} }

func num(n int) api.Expr { return api.Expr{Op: api.XInt, N: n} }

func name(s string) api.Expr { return api.Expr{Op: api.XName, S: s} }

func field(e api.Expr, s string) api.Expr { return api.Expr{Op: api.XField, S: s, L: []api.Expr{e}} }

func call(s string, parts ...api.Expr) api.Expr { return api.Expr{Op: api.XCall, S: s, L: parts} }

func null() api.Expr { return api.Expr{Op: api.XNil} }

func fresh(s string) api.Expr { return api.Expr{Op: api.XNew, S: s} }

func at(line, column int) api.Pos { return api.Pos{Line: line, Column: column} }

func isZero(d api.Desc) bool {
	return d.Name == "" && len(d.Types)+len(d.Globals)+len(d.Procs)+len(d.Measures)+len(d.Invariants)+len(d.Potentials)+len(d.Bounds) == 0
}

func isZeroExpr(e api.Expr) bool { return e.Op == 0 && e.N == 0 && e.S == "" && len(e.L) == 0 }

// numbers yields numbers by a fixed rule.
type numbers int

func (n *numbers) below(limit int) int {
	*n = *n * 48271 % 2147483647
	return int(*n) % limit
}

// random returns a valid expression.
func (n *numbers) expr(depth int) api.Expr {
	leaves := []api.Expr{num(n.below(20)), {Op: api.XBool, N: n.below(2)}, null(), name("a"), name("this"), name("iff"), fresh("T"), call("p")}
	if depth <= 1 {
		return leaves[n.below(len(leaves))]
	}
	part := func() api.Expr { return n.expr(depth - 1 - n.below(2)) }
	switch op := api.XInt + n.below(api.XLog); op {
	case api.XField:
		return field(part(), "f")
	case api.XCall:
		e := call("p")
		for range n.below(api.MaxParams + 1) {
			e.L = append(e.L, n.expr(depth-2))
		}
		return e
	case api.XNeg, api.XNot, api.XLog:
		return x(op, part())
	case api.XIf:
		return x(op, part(), part(), part())
	default:
		if op < api.XAdd {
			return leaves[n.below(len(leaves))]
		}
		return x(op, part(), part())
	}
}

func (n *numbers) stmts(depth int) []api.Stmt {
	var l []api.Stmt
	for range n.below(4) {
		s := api.Stmt{Op: api.SSet + n.below(api.SCall)}
		switch s.Op {
		case api.SSet:
			s.S, s.E = "v", []api.Expr{n.expr(3)}
		case api.SPut:
			s.S, s.E = "f", []api.Expr{n.expr(3), n.expr(3)}
		case api.SIf, api.SWhile:
			if depth == 0 {
				continue
			}
			s.E, s.L = []api.Expr{n.expr(3)}, n.stmts(depth-1)
			if s.Op == api.SIf {
				s.Else = n.stmts(depth - 1)
			}
		case api.SReturn:
			if n.below(2) == 0 {
				s.E = []api.Expr{n.expr(3)}
			}
		case api.SCall:
			s.E = []api.Expr{call("q", n.expr(3), n.expr(2))}
		}
		l = append(l, s)
	}
	return l
}

func (n *numbers) fields(limit int) []api.Field {
	var l []api.Field
	for range n.below(limit + 1) {
		l = append(l, api.Field{Name: string('a' + rune(n.below(26))), Type: []string{"int", "bool", "T"}[n.below(3)]})
	}
	return l
}

func (n *numbers) desc() api.Desc {
	d := api.Desc{Name: "d", Globals: n.fields(api.MaxGlobals)}
	types := func() string { return []string{"", "T"}[n.below(2)] }
	for range n.below(3) {
		d.Types = append(d.Types, api.NodeType{Name: "T", Fields: n.fields(4)})
		d.Procs = append(d.Procs, api.Proc{Name: "p", Params: n.fields(3), Result: []string{"", "int", "bool", "T"}[n.below(4)], Locals: n.fields(3), Body: n.stmts(3)})
		d.Measures = append(d.Measures, api.Measure{Name: "m", Type: "T", Nil: n.below(7) - 3, X: n.expr(3)})
		d.Invariants = append(d.Invariants, api.Invariant{Name: "i", Type: types(), X: n.expr(3)})
		d.Potentials = append(d.Potentials, api.Potential{Type: types(), X: n.expr(3)})
		d.Bounds = append(d.Bounds, api.Bound{Proc: "p", X: n.expr(3)})
	}
	return d
}

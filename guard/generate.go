package guard

import (
	"slices"

	"heartwood/api"
	"heartwood/ast"
	"heartwood/copies"
	"heartwood/lex"
	"heartwood/typecheck"
)

// Generate returns the description that checks an invariant by its own procedures.
func Generate(d api.Desc, inv string) (api.Desc, api.Errno) {
	if _, _, err := typecheck.Check(d); err != api.OK {
		return api.Desc{}, api.ErrArg
	}
	i := find(d, inv)
	if i < 0 {
		return api.Desc{}, api.ErrNone
	}
	g := generator{d: d, inv: d.Invariants[i], v: parameter(d)}
	added := g.procs()
	for _, p := range added {
		if !lex.IsName(p.Name) {
			return api.Desc{}, api.ErrName
		}
	}
	for _, p := range added {
		if slices.ContainsFunc(d.Procs, func(x api.Proc) bool { return x.Name == p.Name }) {
			return api.Desc{}, api.ErrTwice
		}
	}
	if len(d.Procs)+len(added) > api.MaxProcs || g.inv.Type != "" && !ast.ValidExpr(node(api.XNot, g.inv.X)) {
		return api.Desc{}, api.ErrFull
	}
	r := copies.Desc(d)
	r.Procs = append(r.Procs, added...)
	return r, api.OK
}

// parameter returns the name of the parameter of the new procedures.
func parameter(d api.Desc) string {
	v := "n"
	for slices.ContainsFunc(d.Globals, func(f api.Field) bool { return f.Name == v }) {
		v += "_"
	}
	return v
}

// generator makes the procedures that check an invariant.
type generator struct {
	d   api.Desc
	inv api.Invariant
	v   string // the parameter
}

func (g generator) procs() []api.Proc {
	l := each(g.d.Measures, g.measure)
	if g.inv.Type != "" {
		l = append(l, each(g.d.Types, g.visit)...)
	}
	return append(l, g.check())
}

// each returns what a function makes of each element.
func each[T any](l []T, f func(T) api.Proc) []api.Proc {
	var r []api.Proc
	for _, x := range l {
		r = append(r, f(x))
	}
	return r
}

// ofNode returns a procedure whose parameter has a type, and that returns a value for nil.
func (g generator) ofNode(name, typ, result string, ifNil api.Expr, rest ...api.Stmt) api.Proc {
	isNil := node(api.XEqual, g.this(), api.Expr{Op: api.XNil})
	body := append([]api.Stmt{when(isNil, ifNil)}, rest...)
	return api.Proc{Name: name, Params: []api.Field{{Name: g.v, Type: typ}}, Result: result, Body: body}
}

func (g generator) measure(m api.Measure) api.Proc {
	ifNil := api.Expr{Op: api.XInt, N: max(m.Nil, -m.Nil)}
	if m.Nil < 0 {
		ifNil = node(api.XNeg, ifNil)
	}
	return g.ofNode("measure_"+m.Name, m.Type, "int", ifNil, returned(g.carried(m.X)))
}

func (g generator) visit(t api.NodeType) api.Proc {
	var l []api.Stmt
	if t.Name == g.inv.Type {
		l = append(l, when(node(api.XNot, g.carried(g.inv.X)), truth(0)))
	}
	for _, f := range t.Fields {
		if g.isNodeType(f.Type) {
			l = append(l, visited(f.Type, api.Expr{Op: api.XField, S: f.Name, L: []api.Expr{g.this()}}))
		}
	}
	return g.ofNode("visit_"+t.Name, t.Name, "bool", truth(1), append(l, returned(truth(1)))...)
}

func (g generator) check() api.Proc {
	p := api.Proc{Name: "check_" + g.inv.Name, Result: "bool"}
	if g.inv.Type == "" {
		p.Body = []api.Stmt{returned(g.carried(g.inv.X))}
		return p
	}
	for _, f := range g.d.Globals {
		if g.isNodeType(f.Type) {
			p.Body = append(p.Body, visited(f.Type, api.Expr{Op: api.XName, S: f.Name}))
		}
	}
	p.Body = append(p.Body, returned(truth(1)))
	return p
}

func (g generator) isNodeType(typ string) bool {
	return slices.ContainsFunc(g.d.Types, func(t api.NodeType) bool { return t.Name == typ })
}

func (g generator) this() api.Expr { return api.Expr{Op: api.XName, S: g.v} }

// carried returns an expression of a measure, or an invariant, as one of a procedure.
func (g generator) carried(e api.Expr) api.Expr {
	return transformed(e, func(e *api.Expr) {
		switch {
		case e.Op == api.XCall:
			e.S = "measure_" + e.S
		case e.Op == api.XName && e.S == "this":
			e.S = g.v
		}
	})
}

// transformed returns a copy of an expression whose nodes have been changed.
func transformed(e api.Expr, change func(*api.Expr)) api.Expr {
	r := e
	r.L = nil
	for _, part := range e.L {
		r.L = append(r.L, transformed(part, change))
	}
	change(&r)
	return r
}

func node(op int, parts ...api.Expr) api.Expr { return api.Expr{Op: op, L: parts} }

func truth(n int) api.Expr { return api.Expr{Op: api.XBool, N: n} }

func returned(e api.Expr) api.Stmt { return api.Stmt{Op: api.SReturn, E: []api.Expr{e}} }

// when returns a statement that returns a value if a condition is true.
func when(e, value api.Expr) api.Stmt {
	return api.Stmt{Op: api.SIf, E: []api.Expr{e}, L: []api.Stmt{returned(value)}}
}

// visited returns a statement that returns false, unless the visit of a reference returns true.
func visited(typ string, e api.Expr) api.Stmt {
	return when(node(api.XNot, api.Expr{Op: api.XCall, S: "visit_" + typ, L: []api.Expr{e}}), truth(0))
}

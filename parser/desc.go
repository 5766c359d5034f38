package parser

import "heartwood/api"

func (p *parser) desc() api.Desc {
	p.want("desc")
	d := api.Desc{Name: p.name()}
	p.want("{")
	for !p.take("}") {
		p.item(&d)
	}
	return d
}

func (p *parser) item(d *api.Desc) {
	switch {
	case p.take("type"):
		t := api.NodeType{Name: p.name()}
		p.want("{")
		t.Fields = list(p, ";", "}", p.field)
		d.Types = append(d.Types, t)
	case p.take("var"):
		d.Globals = append(d.Globals, p.field())
	case p.take("proc"):
		d.Procs = append(d.Procs, p.proc())
	case p.take("measure"):
		d.Measures = append(d.Measures, p.measure())
	case p.take("invariant"):
		i := api.Invariant{Name: p.name()}
		if p.take("(") {
			i.Type = p.name()
			p.want(")")
		}
		i.X = p.value()
		d.Invariants = append(d.Invariants, i)
	case p.take("potential"):
		var x api.Potential
		if !p.is(api.TokSymbol, "=") {
			x.Type = p.name()
		}
		x.X = p.value()
		d.Potentials = append(d.Potentials, x)
	case p.take("bound"):
		b := api.Bound{Proc: p.name()}
		b.X = p.value()
		d.Bounds = append(d.Bounds, b)
	default:
		p.fail()
	}
}

// value reads an equals sign and an expression.
func (p *parser) value() api.Expr {
	p.want("=")
	return p.expr()
}

func (p *parser) measure() api.Measure {
	m := api.Measure{Name: p.name()}
	p.want("(")
	m.Type = p.name()
	p.want(")", "nil")
	if p.take("-") {
		m.Nil = -p.of(api.TokInt).N
	} else {
		m.Nil = p.of(api.TokInt).N
	}
	m.X = p.value()
	return m
}

func (p *parser) proc() api.Proc {
	x := api.Proc{Name: p.name()}
	p.want("(")
	x.Params = list(p, ",", ")", p.field)
	if !p.is(api.TokSymbol, "{") {
		x.Result = p.typ()
	}
	p.want("{")
	for p.take("local") {
		x.Locals = append(x.Locals, p.field())
		p.want(";")
	}
	x.Body = p.statements()
	return x
}

// statements reads statements and the brace after them.
func (p *parser) statements() []api.Stmt {
	var l []api.Stmt
	for !p.take("}") {
		l = append(l, p.statement())
	}
	return l
}

func (p *parser) block() []api.Stmt {
	p.want("{")
	return p.statements()
}

func (p *parser) statement() api.Stmt {
	switch {
	case p.take("if"):
		s := api.Stmt{Op: api.SIf, E: []api.Expr{p.expr()}, L: p.block()}
		if p.take("else") {
			s.Else = p.block()
		}
		return s
	case p.take("while"):
		return api.Stmt{Op: api.SWhile, E: []api.Expr{p.expr()}, L: p.block()}
	case p.take("return"):
		s := api.Stmt{Op: api.SReturn}
		if !p.take(";") {
			s.E = []api.Expr{p.expr()}
			p.want(";")
		}
		return s
	}
	return p.simple()
}

// simple reads a call, or the setting of a variable or a field.
func (p *parser) simple() api.Stmt {
	e := p.postfix()
	var s api.Stmt
	switch {
	case e.Op == api.XCall:
		s = api.Stmt{Op: api.SCall, E: []api.Expr{e}}
	case e.Op == api.XName && e.S != "this":
		s = api.Stmt{Op: api.SSet, S: e.S, E: []api.Expr{p.value()}}
	case e.Op == api.XField:
		s = api.Stmt{Op: api.SPut, S: e.S, E: []api.Expr{e.L[0], p.value()}}
	default:
		p.fail()
	}
	p.want(";")
	return s
}

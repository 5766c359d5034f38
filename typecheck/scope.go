package typecheck

import "heartwood/api"

// scope is a checker that knows the types of the variables, and whether it stands in a procedure.
type scope struct {
	*checker
	vars      map[string]string
	procedure bool
}

func (c *checker) scope() scope {
	s := scope{checker: c, vars: map[string]string{}}
	s.add(c.d.Globals)
	return s
}

func (s scope) add(l []api.Field) {
	for _, f := range l {
		s.vars[f.Name] = f.Type
	}
}

func (c *checker) inProc(p api.Proc) scope {
	s := c.scope()
	s.procedure = true
	s.add(p.Params)
	s.add(p.Locals)
	return s
}

// ofNode returns the scope of a measure, an invariant, or a potential with a type, or without one.
func (c *checker) ofNode(typ string) scope {
	s := c.scope()
	if typ != "" {
		s.vars["this"] = typ
	}
	return s
}

func (c *checker) ofBound(p api.Proc) scope {
	s := c.scope()
	s.add(p.Params)
	return s
}

func (s scope) statements(l []api.Stmt, result string) {
	for _, x := range l {
		s.index++
		s.statement(x, result)
		s.statements(x.L, result)
		s.statements(x.Else, result)
	}
}

func (s scope) statement(x api.Stmt, result string) {
	if x.Op == api.SCall {
		s.call(x.E[0], s.typesOf(x.E[0].L))
		return
	}
	types := s.typesOf(x.E)
	switch x.Op {
	case api.SSet:
		typ, known := s.vars[x.S]
		s.need(known, api.ErrName)
		s.need(s.fits(types[0], typ), api.ErrType)
	case api.SPut:
		typ := s.field(types[0], x.S)
		s.need(s.fits(types[1], typ), api.ErrType)
	case api.SIf, api.SWhile:
		s.need(types[0] == "bool", api.ErrType)
	case api.SReturn:
		s.need((len(types) > 0) == (result != ""), api.ErrType)
		s.need(len(types) == 0 || s.fits(types[0], result), api.ErrType)
	}
}

// fits reports whether a value of a type may be put where one of the type wanted stands.
func (s scope) fits(typ, wanted string) bool {
	return typ == wanted || typ == "nil" && s.isNodeType(wanted)
}

// field returns the type of a field of a node type.
func (s scope) field(typ, name string) string {
	t, node := s.types[typ]
	s.need(node, api.ErrType)
	for _, f := range t.Fields {
		if f.Name == name {
			return f.Type
		}
	}
	s.need(false, api.ErrName)
	return ""
}

// call checks a call of a procedure, whose parts have types, and returns the type of its result.
func (s scope) call(e api.Expr, types []string) string {
	p, known := s.procs[e.S]
	s.need(known, api.ErrName)
	s.need(len(types) == len(p.Params), api.ErrSize)
	for i, f := range p.Params {
		s.need(s.fits(types[i], f.Type), api.ErrType)
	}
	return p.Result
}

// measure checks a call of a measure.
func (s scope) measure(e api.Expr, types []string) {
	typ, known := s.measures[e.S]
	s.need(known, api.ErrName)
	s.need(len(types) == 1, api.ErrSize)
	s.need(s.fits(types[0], typ), api.ErrType)
}

func (s scope) typesOf(l []api.Expr) []string {
	types := make([]string, len(l))
	for i, e := range l {
		types[i] = s.typeOf(e)
	}
	return types
}

// allAre asks that all parts have a type.
func (s scope) allAre(typ string, types []string) {
	for _, t := range types {
		s.need(t == typ, api.ErrType)
	}
}

// typeOf returns the type of an expression; nil has the type nil.
func (s scope) typeOf(e api.Expr) string {
	types := s.typesOf(e.L)
	switch e.Op {
	case api.XInt:
		return "int"
	case api.XBool:
		return "bool"
	case api.XNil:
		return "nil"
	case api.XName:
		typ, known := s.vars[e.S]
		s.need(known, api.ErrName)
		return typ
	case api.XField:
		return s.field(types[0], e.S)
	case api.XNew:
		s.need(s.procedure, api.ErrState)
		s.need(s.isNodeType(e.S), api.ErrName)
		return e.S
	case api.XCall:
		if !s.procedure {
			s.measure(e, types)
			return "int"
		}
		result := s.call(e, types)
		s.need(result != "", api.ErrType)
		return result
	}
	return s.operator(e.Op, types)
}

// operator returns the type of an operator whose parts have types.
func (s scope) operator(op int, types []string) string {
	switch op {
	case api.XEqual, api.XNotEqual:
		s.need(s.fits(types[0], types[1]) || s.fits(types[1], types[0]), api.ErrType)
		return "bool"
	case api.XLess, api.XLessEqual:
		s.allAre("int", types)
		return "bool"
	case api.XNot, api.XAnd, api.XOr:
		s.allAre("bool", types)
		return "bool"
	case api.XIf:
		s.need(types[0] == "bool" && (s.fits(types[1], types[2]) || s.fits(types[2], types[1])), api.ErrType)
		if types[1] == "nil" {
			return types[2]
		}
		return types[1]
	}
	s.allAre("int", types)
	return "int"
}

package bytecode

import (
	"heartwood/api"
	"heartwood/ast"
	"heartwood/typecheck"
)

// Compile returns the code of a description.
func Compile(d api.Desc) (api.Code, api.Errno) {
	if !ast.Valid(d) {
		return api.Code{}, api.ErrArg
	}
	if _, _, err := typecheck.Check(d); err != api.OK {
		return api.Code{}, api.ErrState
	}
	c := newCompiler(d)
	code := api.Code{Globals: len(d.Globals)}
	for _, t := range d.Types {
		code.Fields = append(code.Fields, len(t.Fields))
	}
	for _, p := range d.Procs {
		code.Funcs = append(code.Funcs, c.proc(p))
	}
	return code, api.OK
}

// variable is the index of a variable or a field, and its type.
type variable struct {
	index int
	typ   string
}

// compiler has the names of a description, and the instructions of the procedure that is being compiled.
type compiler struct {
	d       api.Desc
	types   map[string]int
	fields  map[string]map[string]variable // of each type
	procs   map[string]int
	globals map[string]variable
	locals  map[string]variable
	code    []api.Instr
}

func newCompiler(d api.Desc) *compiler {
	c := &compiler{d: d, types: map[string]int{}, fields: map[string]map[string]variable{}, procs: map[string]int{}, globals: variables(d.Globals)}
	for i, t := range d.Types {
		c.types[t.Name] = i
		c.fields[t.Name] = variables(t.Fields)
	}
	for i, p := range d.Procs {
		c.procs[p.Name] = i
	}
	return c
}

func variables(l []api.Field) map[string]variable {
	m := map[string]variable{}
	for i, f := range l {
		m[f.Name] = variable{i, f.Type}
	}
	return m
}

func (c *compiler) proc(p api.Proc) api.Func {
	all := append(append([]api.Field{}, p.Params...), p.Locals...)
	c.locals, c.code = variables(all), nil
	c.statements(p.Body)
	// The end may be reached without a return.
	if p.Result != "" {
		c.emit(api.IConst, 0)
	}
	c.emit(api.IReturn, 0)
	return api.Func{Name: p.Name, Params: len(p.Params), Locals: len(all), Result: p.Result != "", Code: c.code}
}

// emit adds an instruction, and returns its index.
func (c *compiler) emit(op, a int) int {
	c.code = append(c.code, api.Instr{Op: op, A: a})
	return len(c.code) - 1
}

// land makes jumps lead to the next instruction.
func (c *compiler) land(jumps ...int) {
	for _, i := range jumps {
		c.code[i].A = len(c.code)
	}
}

func (c *compiler) statements(l []api.Stmt) {
	for _, s := range l {
		begin := c.emit(api.ITick, 0)
		switch s.Op {
		case api.SSet:
			c.expr(s.E[0])
			c.access(s.S, api.ISetLocal, api.ISetGlobal)
		case api.SPut:
			typ := c.expr(s.E[0])
			c.expr(s.E[1])
			c.emit(api.ISetField, c.fields[typ][s.S].index)
		case api.SIf:
			c.choice(s)
		case api.SWhile:
			c.expr(s.E[0])
			leave := c.emit(api.IJumpFalse, 0)
			c.statements(s.L)
			c.emit(api.IJump, begin)
			c.land(leave)
		case api.SReturn:
			for _, e := range s.E {
				c.expr(e)
			}
			c.emit(api.IReturn, 0)
		case api.SCall:
			if c.call(s.E[0]) != "" {
				c.emit(api.IPop, 0)
			}
		}
	}
}

func (c *compiler) choice(s api.Stmt) {
	c.expr(s.E[0])
	other := c.emit(api.IJumpFalse, 0)
	c.statements(s.L)
	end := c.emit(api.IJump, 0)
	c.land(other)
	c.statements(s.Else)
	c.land(end)
}

// access reads or writes a variable, and returns its type.
func (c *compiler) access(name string, local, global int) string {
	v, known := c.locals[name]
	if known {
		c.emit(local, v.index)
		return v.typ
	}
	v = c.globals[name]
	c.emit(global, v.index)
	return v.typ
}

// call returns the result type of the procedure that is called.
func (c *compiler) call(e api.Expr) string {
	for _, part := range e.L {
		c.expr(part)
	}
	i := c.procs[e.S]
	c.emit(api.ICall, i)
	return c.d.Procs[i].Result
}

// expr compiles an expression, and returns its type.
func (c *compiler) expr(e api.Expr) string {
	switch e.Op {
	case api.XInt:
		c.emit(api.IConst, e.N)
		return "int"
	case api.XBool:
		c.emit(api.IConst, e.N)
		return "bool"
	case api.XNil:
		c.emit(api.IConst, 0)
		return "nil"
	case api.XName:
		return c.access(e.S, api.ILocal, api.IGlobal)
	case api.XField:
		f := c.fields[c.expr(e.L[0])][e.S]
		c.emit(api.IField, f.index)
		return f.typ
	case api.XNew:
		c.emit(api.INew, c.types[e.S])
		return e.S
	case api.XCall:
		return c.call(e)
	case api.XAnd, api.XOr, api.XIf:
		return c.branches(e)
	}
	typ := ""
	for _, part := range e.L {
		typ = c.expr(part)
	}
	return c.operator(e.Op, typ)
}

// branches compiles an expression of which not all parts are evaluated.
func (c *compiler) branches(e api.Expr) string {
	c.expr(e.L[0])
	other := c.emit(api.IJumpFalse, 0)
	typ := "bool"
	switch e.Op {
	case api.XAnd:
		c.expr(e.L[1])
	case api.XOr:
		c.emit(api.IConst, 1)
	case api.XIf:
		typ = c.expr(e.L[1])
	}
	end := c.emit(api.IJump, 0)
	c.land(other)
	switch e.Op {
	case api.XAnd:
		c.emit(api.IConst, 0)
	case api.XOr:
		c.expr(e.L[1])
	case api.XIf:
		if last := c.expr(e.L[2]); typ == "nil" {
			typ = last
		}
	}
	c.land(end)
	return typ
}

// operator emits an operator whose last part has a type.
func (c *compiler) operator(op int, typ string) string {
	switch {
	case op == api.XEqual && typ != "int":
		c.emit(api.ISame, 0)
	case op == api.XNotEqual && typ != "int":
		c.emit(api.INotSame, 0)
	case op >= api.XNeg && op <= api.XLessEqual:
		c.emit(api.INeg+op-api.XNeg, 0)
	case op == api.XNot:
		c.emit(api.INot, 0)
	default:
		c.emit(api.IMax+op-api.XMax, 0)
	}
	if op >= api.XEqual && op <= api.XNot {
		return "bool"
	}
	return "int"
}

package eval

import (
	"heartwood/api"
	"heartwood/arith"
)

// frame is a call that is running.
type frame struct {
	*run
	vars   map[string]slot
	values []int
	result int
}

// call runs a procedure with arguments that are right.
func (r *run) call(name string, args []int) int {
	if r.calls == api.MaxCalls {
		panic(fault(api.ErrDepth))
	}
	r.calls++
	p := r.procs[name]
	f := frame{run: r, vars: p.vars, values: make([]int, len(p.Params)+len(p.Locals))}
	copy(f.values, args)
	f.statements(p.Body)
	r.calls--
	return f.result
}

// statements runs statements, and reports whether one of them has ended the call.
func (f *frame) statements(l []api.Stmt) bool {
	for i := range l {
		if f.statement(&l[i]) {
			return true
		}
	}
	return false
}

func (f *frame) statement(s *api.Stmt) bool {
	if s.Op == api.SWhile {
		return f.loop(s)
	}
	f.tick()
	switch s.Op {
	case api.SSet:
		f.set(s.S, f.value(&s.E[0]))
	case api.SPut:
		node, value := f.value(&s.E[0]), f.value(&s.E[1])
		k := f.field(node, s.S).index
		f.note(api.Write, node, k)
		f.mem.Nodes[node-1].F[k] = value
	case api.SIf:
		if f.value(&s.E[0]) == 1 {
			return f.statements(s.L)
		}
		return f.statements(s.Else)
	case api.SReturn:
		if len(s.E) > 0 {
			f.result = f.value(&s.E[0])
		}
		return true
	case api.SCall:
		f.value(&s.E[0])
	}
	return false
}

func (f *frame) loop(s *api.Stmt) bool {
	for {
		f.tick()
		if f.value(&s.E[0]) == 0 {
			return false
		}
		if f.statements(s.L) {
			return true
		}
	}
}

func (f *frame) set(name string, value int) {
	if v, local := f.vars[name]; local {
		f.values[v.index] = value
		return
	}
	k := f.globals[name].index
	f.note(api.Write, 0, k)
	f.mem.Globals[k] = value
}

func (f *frame) value(e *api.Expr) int {
	n, _ := f.eval(e)
	return n
}

// eval returns the value of an expression, and whether it is an integer: comparisons of others are not counted.
func (f *frame) eval(e *api.Expr) (int, bool) {
	switch e.Op {
	case api.XInt:
		return e.N, true
	case api.XBool, api.XNil:
		return e.N, false
	case api.XName:
		return f.variable(e.S)
	case api.XField:
		node := f.value(&e.L[0])
		k := f.field(node, e.S)
		f.note(api.Read, node, k.index)
		return f.mem.Nodes[node-1].F[k.index], k.integer
	case api.XNew:
		return f.alloc(f.types[e.S]), false
	case api.XCall:
		args := make([]int, len(e.L))
		for i := range e.L {
			args[i] = f.value(&e.L[i])
		}
		return f.call(e.S, args), f.procs[e.S].Result == "int"
	case api.XAnd, api.XOr:
		left := f.value(&e.L[0])
		if (left == 1) != (e.Op == api.XAnd) {
			return left, false
		}
		return f.value(&e.L[1]), false
	case api.XIf:
		return f.eval(&e.L[2-f.value(&e.L[0])])
	case api.XNeg, api.XLog, api.XNot:
		return arith.Unary(e.Op, f.value(&e.L[0])), e.Op != api.XNot
	}
	return f.binary(e)
}

func (f *frame) variable(name string) (int, bool) {
	if v, local := f.vars[name]; local {
		return f.values[v.index], v.integer
	}
	v := f.globals[name]
	f.note(api.Read, 0, v.index)
	return f.mem.Globals[v.index], v.integer
}

func (f *frame) binary(e *api.Expr) (int, bool) {
	left, integers := f.eval(&e.L[0])
	right := f.value(&e.L[1])
	n, err := arith.Binary(e.Op, left, right)
	if err != api.OK {
		panic(fault(err))
	}
	if e.Op < api.XEqual || e.Op > api.XLessEqual {
		return n, true
	}
	if integers {
		f.cost.Compares++
	}
	return n, false
}

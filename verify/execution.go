package verify

import "heartwood/api"

// value is an integer, as a symbol and what is added to it, or a reference: the number of a node, or an unknown.
type value struct {
	symbol, plus int
	node         int
	unknown      *unknown
}

// unknown is a reference of which nothing is known until it is resolved.
type unknown struct {
	typ      int
	resolved bool
	node     int
}

// object is a node that is known, with its fields at the beginning and now.
type object struct {
	typ        int
	fresh      bool // made by the procedure
	begin, now []value
}

// zero is the symbol that stands for 0.
const zero = 0

// execution is a symbolic execution with some choices.
type execution struct {
	*verifier
	choices     []int
	used        int
	symbols     int
	constraints []constraint
	objects     []object // the node n is the element n - 1
	begin, now  []value  // the global variables
	params      []value  // at the beginning
	locals      map[string]value
	globals     map[string]int
}

// choose is the panic when a choice is needed that is not given: between so many ways.
type choose int

// nilFault is the panic when a field of nil is needed.
type nilFault struct{}

// runs returns the executions that end without a fault, in the order of their paths, and whether there are not too many.
func (v *verifier) runs() ([]*execution, bool) {
	var l []*execution
	var try func(choices []int) bool
	try = func(choices []int) bool {
		x, ways, faulted := v.execute(choices)
		if ways == 0 && !faulted {
			l = append(l, x)
		}
		for c := range ways {
			if !try(append(choices[:len(choices):len(choices)], c)) {
				return false
			}
		}
		return len(l) <= maxPaths
	}
	ok := try(nil)
	return l, ok
}

// execute runs the procedure with choices. If one more is needed, it returns between how many ways.
func (v *verifier) execute(choices []int) (x *execution, ways int, faulted bool) {
	x = &execution{verifier: v, choices: choices, symbols: 1, locals: map[string]value{}, globals: map[string]int{}}
	for i, f := range v.d.Globals {
		x.begin = append(x.begin, x.other(f.Type))
		x.globals[f.Name] = i
	}
	x.now = append(x.now, x.begin...)
	for _, f := range v.proc.Params {
		p := x.other(f.Type)
		x.params = append(x.params, p)
		x.locals[f.Name] = p
	}
	for _, f := range v.proc.Locals {
		x.locals[f.Name] = value{}
	}
	defer func() {
		switch r := recover().(type) {
		case nil:
		case choose:
			ways = int(r)
		case nilFault:
			faulted = true
		default:
			panic(r)
		}
	}()
	x.statements(v.proc.Body)
	return x, 0, false
}

// other returns another symbol, or another unknown, for a type.
func (x *execution) other(typ string) value {
	if t, node := x.types[typ]; node {
		return value{unknown: &unknown{typ: t}}
	}
	x.symbols++
	return value{symbol: x.symbols - 1}
}

// choice returns the next choice, between so many ways.
func (x *execution) choice(ways int) int {
	if x.used == len(x.choices) {
		panic(choose(ways))
	}
	x.used++
	return x.choices[x.used-1]
}

// resolve returns the number of the node of a reference, 0 for nil.
func (x *execution) resolve(v value) int {
	u := v.unknown
	if u == nil {
		return v.node
	}
	if u.resolved {
		return u.node
	}
	nodes := []int{0}
	for i, o := range x.objects {
		if !o.fresh && o.typ == u.typ {
			nodes = append(nodes, i+1)
		}
	}
	c := x.choice(len(nodes) + 1)
	if c == len(nodes) {
		nodes = append(nodes, x.old(u.typ))
	}
	u.resolved, u.node = true, nodes[c]
	return u.node
}

// old makes an old node known, and returns its number.
func (x *execution) old(typ int) int {
	o := object{typ: typ}
	for _, f := range x.d.Types[typ].Fields {
		o.begin = append(o.begin, x.other(f.Type))
	}
	o.now = append(o.now, o.begin...)
	x.objects = append(x.objects, o)
	return len(x.objects)
}

// place returns where the field of a reference is kept.
func (x *execution) place(v value, name string) *value {
	n := x.resolve(v)
	if n == 0 {
		panic(nilFault{})
	}
	o := x.objects[n-1]
	for i, f := range x.d.Types[o.typ].Fields {
		if f.Name == name {
			return &o.now[i]
		}
	}
	return nil
}

func (x *execution) statements(l []api.Stmt) bool {
	for _, s := range l {
		if x.statement(s) {
			return true
		}
	}
	return false
}

// statement executes a statement, and reports whether it ends the procedure.
func (x *execution) statement(s api.Stmt) bool {
	switch s.Op {
	case api.SSet:
		v := x.value(s.E[0])
		if _, local := x.locals[s.S]; local {
			x.locals[s.S] = v
		} else {
			x.now[x.globals[s.S]] = v
		}
	case api.SPut:
		node := x.value(s.E[0])
		v := x.value(s.E[1])
		*x.place(node, s.S) = v
	case api.SIf:
		if x.condition(s.E[0]) {
			return x.statements(s.L)
		}
		return x.statements(s.Else)
	case api.SReturn:
		for _, e := range s.E {
			if x.isCondition(e) {
				x.condition(e)
			} else {
				x.value(e)
			}
		}
		return true
	}
	return false
}

// value evaluates a term, a reference, or an XNew.
func (x *execution) value(e api.Expr) value {
	if e.Op == api.XNil {
		return value{}
	}
	if e.Op == api.XNew {
		t := x.types[e.S]
		x.objects = append(x.objects, object{typ: t, fresh: true, now: make([]value, len(x.d.Types[t].Fields))})
		return value{node: len(x.objects)}
	}
	base, plus := splitTerm(e)
	if base == nil {
		return value{symbol: zero, plus: plus}
	}
	v := x.read(*base)
	v.plus += plus
	return v
}

func (x *execution) read(e api.Expr) value {
	if e.Op == api.XField {
		return *x.place(x.read(e.L[0]), e.S)
	}
	if v, local := x.locals[e.S]; local {
		return v
	}
	return x.now[x.globals[e.S]]
}

func (x *execution) condition(e api.Expr) bool {
	switch e.Op {
	case api.XBool:
		return e.N == 1
	case api.XNot:
		return !x.condition(e.L[0])
	case api.XAnd:
		return x.condition(e.L[0]) && x.condition(e.L[1])
	case api.XOr:
		return x.condition(e.L[0]) || x.condition(e.L[1])
	}
	left := x.value(e.L[0])
	right := x.value(e.L[1])
	if x.isReference(e.L[0]) {
		a := x.resolve(left)
		b := x.resolve(right)
		return (a == b) == (e.Op == api.XEqual)
	}
	return x.compare(e.Op, left, right)
}

// compare chooses the result of a comparison of terms, and adds what is known then.
func (x *execution) compare(op int, a, b value) bool {
	switch op {
	case api.XLess, api.XLessEqual:
		c := x.choice(2) == 1
		x.constraints = append(x.constraints, ordered(op, a, b, c))
		return c
	}
	c := x.choice(3)
	x.constraints = append(x.constraints, equality(a, b, c)...)
	return (c == 0) == (op == api.XEqual)
}

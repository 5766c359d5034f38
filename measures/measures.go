// Package measures finds the values of expressions and measures for the nodes of a memory, for the layers that check
// invariants, potentials, and bounds.
package measures

import (
	"heartwood/api"
	"heartwood/arith"
)

// Reader finds values in a memory, which must not be changed meanwhile.
type Reader struct {
	mem      api.Mem
	globals  map[string]int
	fields   []map[string]int // of each type
	measures map[string]api.Measure
	params   map[string]int // the values of the parameters of a bound
	known    map[key]int
	active   map[key]bool  // measures that are being evaluated
	broken   map[key]fault // measures that have been found to end with a fault
}

// key is a measure of a node.
type key struct {
	name string
	node int
}

// fault is the panic that ends an evaluation.
type fault api.Errno

// New returns a reader for a well-typed description, and a memory that is valid for it.
func New(d api.Desc, m api.Mem) *Reader {
	r := &Reader{mem: m, globals: indices(d.Globals), measures: map[string]api.Measure{}, known: map[key]int{}, active: map[key]bool{}, broken: map[key]fault{}}
	for _, t := range d.Types {
		r.fields = append(r.fields, indices(t.Fields))
	}
	for _, x := range d.Measures {
		r.measures[x.Name] = x
	}
	return r
}

func indices(l []api.Field) map[string]int {
	m := map[string]int{}
	for i, f := range l {
		m[f.Name] = i
	}
	return m
}

// Measure returns a measure of a node, or its fault.
func (r *Reader) Measure(name string, node int) (int, api.Errno) {
	return r.caught(func() int { return r.measure(name, node) })
}

// Value returns the value of a well-typed expression for a node, or without one, or its fault.
func (r *Reader) Value(e api.Expr, node int) (int, api.Errno) {
	return r.caught(func() int { return r.value(&e, node) })
}

// Bound returns the value of an expression in which names are parameters with values, or its fault.
func (r *Reader) Bound(e api.Expr, params map[string]int) (int, api.Errno) {
	r.params = params
	n, err := r.Value(e, 0)
	r.params = nil
	return n, err
}

func (r *Reader) caught(f func() int) (n int, err api.Errno) {
	defer func() {
		if x := recover(); x != nil {
			f, ok := x.(fault)
			if !ok {
				panic(x)
			}
			n, err = 0, api.Errno(f)
			// What was being evaluated ends with a fault whenever it is asked for: it need not be tried again.
			for k := range r.active {
				r.broken[k] = f
			}
			clear(r.active)
		}
	}()
	return f(), api.OK
}

func (r *Reader) measure(name string, node int) int {
	m := r.measures[name]
	if node == 0 {
		return m.Nil
	}
	k := key{name, node}
	n, known := r.known[k]
	if known {
		return n
	}
	if f, ends := r.broken[k]; ends {
		panic(f)
	}
	if r.active[k] {
		panic(fault(api.ErrCycle))
	}
	r.active[k] = true
	// The parameters of a bound are no variables of a measure.
	params := r.params
	r.params = nil
	n = r.value(&m.X, node)
	r.params = params
	delete(r.active, k)
	r.known[k] = n
	return n
}

func (r *Reader) value(e *api.Expr, node int) int {
	switch e.Op {
	case api.XInt, api.XBool, api.XNil:
		return e.N
	case api.XName:
		return r.variable(e.S, node)
	case api.XField:
		of := r.value(&e.L[0], node)
		if of == 0 {
			panic(fault(api.ErrNil))
		}
		n := r.mem.Nodes[of-1]
		return n.F[r.fields[n.Type][e.S]]
	case api.XCall:
		return r.measure(e.S, r.value(&e.L[0], node))
	case api.XAnd, api.XOr:
		left := r.value(&e.L[0], node)
		if (left == 1) != (e.Op == api.XAnd) {
			return left
		}
		return r.value(&e.L[1], node)
	case api.XIf:
		return r.value(&e.L[2-r.value(&e.L[0], node)], node)
	case api.XNeg, api.XLog, api.XNot:
		return arith.Unary(e.Op, r.value(&e.L[0], node))
	}
	left := r.value(&e.L[0], node)
	right := r.value(&e.L[1], node)
	n, err := arith.Binary(e.Op, left, right)
	if err != api.OK {
		panic(fault(err))
	}
	return n
}

func (r *Reader) variable(name string, node int) int {
	if name == "this" {
		return node
	}
	if n, known := r.params[name]; known {
		return n
	}
	return r.mem.Globals[r.globals[name]]
}

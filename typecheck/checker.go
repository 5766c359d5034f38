package typecheck

import "heartwood/api"

// checker looks for the first error of a description.
type checker struct {
	d        api.Desc
	types    map[string]api.NodeType
	procs    map[string]api.Proc
	measures map[string]string // their types
	place    string            // of what is being checked
	index    int
}

func newChecker(d api.Desc) *checker {
	c := &checker{d: d, types: map[string]api.NodeType{}, procs: map[string]api.Proc{}, measures: map[string]string{}}
	for _, t := range d.Types {
		c.types[t.Name] = t
	}
	for _, p := range d.Procs {
		c.procs[p.Name] = p
	}
	for _, m := range d.Measures {
		c.measures[m.Name] = m.Type
	}
	return c
}

func (c *checker) at(place string) { c.place, c.index = place, -1 }

// need ends the check with an error, unless something is so.
func (c *checker) need(ok bool, err api.Errno) {
	if !ok {
		panic(fault{c.place, c.index, err})
	}
}

func (c *checker) isNodeType(s string) bool {
	_, known := c.types[s]
	return known
}

func (c *checker) isKnown(s string) bool { return isPlain(s) || c.isNodeType(s) }

// isNew reports whether no element before the one with an index has the same name.
func isNew[T any](l []T, i int, name func(T) string) bool {
	for _, x := range l[:i] {
		if name(x) == name(l[i]) {
			return false
		}
	}
	return true
}

func fieldName(f api.Field) string { return f.Name }

// declare checks fields or variables, whose names must be different.
func (c *checker) declare(l []api.Field) {
	for i, f := range l {
		c.need(isNew(l, i, fieldName), api.ErrTwice)
		c.need(c.isKnown(f.Type), api.ErrName)
	}
}

func (c *checker) typeNames() {
	for i, t := range c.d.Types {
		c.at(t.Name)
		c.need(isNew(c.d.Types, i, func(t api.NodeType) string { return t.Name }), api.ErrTwice)
	}
}

func (c *checker) fields() {
	for _, t := range c.d.Types {
		c.at(t.Name)
		c.declare(t.Fields)
	}
}

func (c *checker) globals() {
	for i, v := range c.d.Globals {
		c.at(v.Name)
		c.need(isNew(c.d.Globals, i, fieldName), api.ErrTwice)
		c.need(c.isKnown(v.Type), api.ErrName)
	}
}

func (c *checker) heads() {
	for i, p := range c.d.Procs {
		c.at(p.Name)
		c.need(isNew(c.d.Procs, i, func(p api.Proc) string { return p.Name }), api.ErrTwice)
		c.declare(locals(p))
		c.need(p.Result == "" || c.isKnown(p.Result), api.ErrName)
	}
}

// locals returns the parameters and local variables of a procedure.
func locals(p api.Proc) []api.Field {
	return append(append([]api.Field{}, p.Params...), p.Locals...)
}

func (c *checker) measureHeads() {
	for i, m := range c.d.Measures {
		c.at(m.Name)
		c.need(isNew(c.d.Measures, i, func(m api.Measure) string { return m.Name }), api.ErrTwice)
		c.need(c.isNodeType(m.Type), api.ErrName)
	}
}

func (c *checker) invariantHeads() {
	for i, x := range c.d.Invariants {
		c.at(x.Name)
		c.need(isNew(c.d.Invariants, i, func(x api.Invariant) string { return x.Name }), api.ErrTwice)
		c.need(x.Type == "" || c.isNodeType(x.Type), api.ErrName)
	}
}

func (c *checker) potentialHeads() {
	for _, p := range c.d.Potentials {
		c.at("potential")
		c.need(p.Type == "" || c.isNodeType(p.Type), api.ErrName)
	}
}

func (c *checker) boundHeads() {
	for i, b := range c.d.Bounds {
		c.at(b.Proc)
		_, known := c.procs[b.Proc]
		c.need(known, api.ErrName)
		c.need(isNew(c.d.Bounds, i, func(b api.Bound) string { return b.Proc }), api.ErrTwice)
	}
}

func (c *checker) bodies() {
	for _, p := range c.d.Procs {
		c.at(p.Name)
		c.inProc(p).statements(p.Body, p.Result)
	}
}

// expressions checks what is no part of a procedure.
func (c *checker) expressions() {
	for _, m := range c.d.Measures {
		c.at(m.Name)
		c.need(c.ofNode(m.Type).typeOf(m.X) == "int", api.ErrType)
	}
	for _, x := range c.d.Invariants {
		c.at(x.Name)
		c.need(c.ofNode(x.Type).typeOf(x.X) == "bool", api.ErrType)
	}
	for _, p := range c.d.Potentials {
		c.at("potential")
		c.need(c.ofNode(p.Type).typeOf(p.X) == "int", api.ErrType)
	}
	for _, b := range c.d.Bounds {
		c.at(b.Proc)
		c.need(c.ofBound(c.procs[b.Proc]).typeOf(b.X) == "int", api.ErrType)
	}
}

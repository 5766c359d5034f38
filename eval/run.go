package eval

import (
	"slices"

	"heartwood/api"
	"heartwood/copies"
	"heartwood/heap"
	"heartwood/typecheck"
)

// fault is the panic that ends a call.
type fault api.Errno

// slot is where a variable or a field has its value, and whether this is an integer.
type slot struct {
	index   int
	integer bool
}

// procedure is a procedure with the slots of its parameters and local variables.
type procedure struct {
	api.Proc
	vars map[string]slot
}

// run is a description with a memory that calls change.
type run struct {
	procs   map[string]procedure
	globals map[string]slot
	types   map[string]int    // their indices
	fields  []map[string]slot // of each type
	mem     api.Mem
	fuel    int
	keep    bool // whether accesses are noted
	trace   []api.Access
	ticks   int
	calls   int // that are running
	cost    api.Cost
}

// start returns a run with a copy of the memory.
func start(d api.Desc, m api.Mem, fuel int) (*run, api.Errno) {
	if _, _, err := typecheck.Check(d); err != api.OK || !heap.Valid(d, m) {
		return nil, api.ErrArg
	}
	if fuel < 0 || fuel > api.MaxFuel {
		return nil, api.ErrRange
	}
	r := &run{procs: map[string]procedure{}, globals: slots(d.Globals), types: map[string]int{}, mem: copies.Mem(m), fuel: fuel}
	for i, t := range d.Types {
		r.types[t.Name] = i
		r.fields = append(r.fields, slots(t.Fields))
	}
	for _, p := range d.Procs {
		r.procs[p.Name] = procedure{p, slots(slices.Concat(p.Params, p.Locals))}
	}
	return r, api.OK
}

func slots(l []api.Field) map[string]slot {
	m := map[string]slot{}
	for i, f := range l {
		m[f.Name] = slot{i, f.Type == "int"}
	}
	return m
}

// run runs a call, if it is right; a fault leaves the memory as it is then.
func (r *run) run(c api.Call) (api.Outcome, api.Errno) {
	if err := r.check(c); err != api.OK {
		return api.Outcome{}, err
	}
	r.ticks, r.calls, r.cost = 0, 0, api.Cost{}
	value, err := r.caught(c)
	return api.Outcome{Fault: err, Value: value, Cost: r.cost}, api.OK
}

func (r *run) caught(c api.Call) (value int, err api.Errno) {
	defer func() {
		if x := recover(); x != nil {
			f, ok := x.(fault)
			if !ok {
				panic(x)
			}
			value, err = 0, api.Errno(f)
		}
	}()
	return r.call(c.Proc, c.Args), api.OK
}

// check returns the error of a call that is not right.
func (r *run) check(c api.Call) api.Errno {
	p, known := r.procs[c.Proc]
	if !known {
		return api.ErrName
	}
	if len(c.Args) != len(p.Params) {
		return api.ErrSize
	}
	for i, f := range p.Params {
		if !r.right(f.Type, c.Args[i]) {
			return api.ErrType
		}
	}
	return api.OK
}

func (r *run) right(typ string, value int) bool {
	switch typ {
	case "int":
		return value >= -api.MaxInt && value <= api.MaxInt
	case "bool":
		return value == 0 || value == 1
	}
	return value == 0 || value > 0 && value <= len(r.mem.Nodes) && r.mem.Nodes[value-1].Type == r.types[typ]
}

// note counts and keeps an access.
func (r *run) note(kind, node, field int) {
	if kind == api.Alloc || node > 0 {
		r.cost.Nodes++
	}
	if r.keep {
		r.trace = append(r.trace, api.Access{Kind: kind, Node: node, Field: field})
	}
}

func (r *run) tick() {
	if r.ticks == r.fuel {
		panic(fault(api.ErrFuel))
	}
	r.ticks++
}

func (r *run) alloc(typ int) int {
	if len(r.mem.Nodes) == api.MaxNodes {
		panic(fault(api.ErrMemory))
	}
	r.mem.Nodes = append(r.mem.Nodes, api.Node{Type: typ, F: make([]int, len(r.fields[typ]))})
	node := len(r.mem.Nodes)
	r.note(api.Alloc, node, typ)
	return node
}

// field returns the slot of a field of a node, which must not be nil.
func (r *run) field(node int, name string) slot {
	if node == 0 {
		panic(fault(api.ErrNil))
	}
	return r.fields[r.mem.Nodes[node-1].Type][name]
}

package verify

import (
	"heartwood/api"
	"heartwood/eval"
	"heartwood/heap"
	"heartwood/measures"
)

// memory returns the memory and the arguments with which an execution begins, if the symbols have values. What is not
// resolved may be nil.
func (x *execution) memory(values []int) (api.Mem, []int) {
	numbers := make([]int, len(x.objects)+1)
	count := 0
	for i, o := range x.objects {
		if !o.fresh {
			count++
			numbers[i+1] = count
		}
	}
	concrete := func(fields []api.Field, l []value) []int {
		r := make([]int, len(fields))
		for i, f := range fields {
			switch {
			case f.Type == "int":
				r[i] = values[l[i].symbol] + l[i].plus
			case l[i].unknown != nil:
				r[i] = numbers[l[i].unknown.node]
			}
		}
		return r
	}
	m := api.Mem{Globals: concrete(x.d.Globals, x.begin)}
	for _, o := range x.objects {
		if !o.fresh {
			m.Nodes = append(m.Nodes, api.Node{Type: o.typ, F: concrete(x.d.Types[o.typ].Fields, o.begin)})
		}
	}
	return m, concrete(x.proc.Params, x.params)
}

// isCounterexample reports whether a call from a memory breaks the invariant, though all simple ones held before.
func (v *verifier) isCounterexample(m api.Mem, args []int) bool {
	if !heap.Valid(v.d, m) {
		return false
	}
	for i, inv := range v.d.Invariants {
		if v.atoms[i] != nil && !v.holdsIn(m, inv) {
			return false
		}
	}
	o, after, err := eval.Run(v.d, m, api.Call{Proc: v.proc.Name, Args: args}, api.MaxFuel)
	return err == api.OK && o.Fault == api.OK && !v.holdsIn(after, v.inv)
}

// holdsIn reports whether an invariant holds for all nodes, reached or not, or for the global variables.
func (v *verifier) holdsIn(m api.Mem, inv api.Invariant) bool {
	r := measures.New(v.d, m)
	holds := func(node int) bool {
		n, err := r.Value(inv.X, node)
		return n == 1 && err == api.OK
	}
	if inv.Type == "" {
		return holds(0)
	}
	for i, n := range m.Nodes {
		if v.d.Types[n.Type].Name == inv.Type && !holds(i+1) {
			return false
		}
	}
	return true
}

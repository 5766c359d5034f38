package vm

import (
	"heartwood/api"
	"heartwood/copies"
	"heartwood/machine"
)

// served runs a call over a copy of a memory; it returns the outcome, the memory after it, and the accesses.
func served(c api.Code, m api.Mem, call api.Call, fuel int) (api.Outcome, api.Mem, []api.Access, api.Errno) {
	if !machine.IsSound(c) || !machine.Fits(c, m) {
		return api.Outcome{}, api.Mem{}, nil, api.ErrArg
	}
	x, err := started(c, call, fuel)
	if err != api.OK {
		return api.Outcome{}, api.Mem{}, nil, err
	}
	m = copies.Mem(m)
	var accesses []api.Access
	nodes := 0 // accesses that are not to global variables
	for x.Request.Kind < api.Done {
		n, a, ok := machine.Access(c, &m, x.Request)
		if !ok {
			x.Request = api.Request{Kind: api.Fail, Fault: api.ErrType}
			break
		}
		if a.Kind != 0 {
			accesses = append(accesses, a)
		}
		if a.Node > 0 {
			nodes++
		}
		machine.Answer(c, &x, n)
	}
	o := api.Outcome{Fault: x.Request.Fault, Value: x.Request.Value, Cost: api.Cost{Compares: x.Compares, Nodes: nodes}}
	return o, m, accesses, api.OK
}

package vm

import (
	"heartwood/api"
	"heartwood/bytecode"
	"heartwood/machine"
)

// Valid reports whether a code is sound, and a machine valid for it.
func Valid(c api.Code, m api.Machine) bool {
	if !machine.IsSound(c) || m.Fuel < 0 || m.Fuel > api.MaxFuel || m.Compares < 0 || m.Compares > api.MaxInt || m.Idle < 0 || m.Idle > machine.MaxIdle {
		return false
	}
	switch q := m.Request; q.Kind {
	case api.Done:
		return len(m.Frames) == 0 && machine.IsValue(q.Value) && q == api.Request{Kind: api.Done, Value: q.Value}
	case api.Fail:
		return len(m.Frames) == 0 && isFault(q.Fault) && q == api.Request{Kind: api.Fail, Fault: q.Fault}
	}
	return validFrames(c, m)
}

func isFault(err api.Errno) bool {
	switch err {
	case api.ErrNil, api.ErrZero, api.ErrDepth, api.ErrFuel, api.ErrBig, api.ErrMemory, api.ErrLimit:
		return true
	}
	return false
}

func validFrames(c api.Code, m api.Machine) bool {
	if len(m.Frames) == 0 || len(m.Frames) > api.MaxCalls {
		return false
	}
	heights := make([][]int, len(c.Funcs))
	for i, f := range m.Frames {
		if f.Func < 0 || f.Func >= len(c.Funcs) {
			return false
		}
		if heights[f.Func] == nil {
			heights[f.Func], _ = bytecode.Heights(c, f.Func)
		}
		x, left, ok := waiting(c, f, heights[f.Func])
		if !ok || left != len(f.Stack) {
			return false
		}
		if i < len(m.Frames)-1 {
			ok = x.Op == api.ICall && x.A == m.Frames[i+1].Func
		} else {
			ok = fits(x, m.Request)
		}
		if !ok {
			return false
		}
	}
	return true
}

// waiting returns the instruction at which a frame waits, the height that this leaves, and whether the frame is right
// so far.
func waiting(c api.Code, f api.Frame, heights []int) (api.Instr, int, bool) {
	code := c.Funcs[f.Func].Code
	if len(f.Locals) != c.Funcs[f.Func].Locals || !machine.AreValues(f.Locals) || !machine.AreValues(f.Stack) || f.At < 1 || f.At > len(code) || heights[f.At-1] < 0 {
		return api.Instr{}, 0, false
	}
	x := code[f.At-1]
	return x, heights[f.At-1] - popped(c, x), true
}

// popped returns how many values a call, or an instruction that asks, pops; for others it does not matter.
func popped(c api.Code, x api.Instr) int {
	switch x.Op {
	case api.ICall:
		return c.Funcs[x.A].Params
	case api.ISetGlobal, api.IField:
		return 1
	case api.ISetField:
		return 2
	}
	return 0
}

// fits reports whether an instruction makes a request.
func fits(x api.Instr, q api.Request) bool {
	want := api.Request{Kind: api.Read, Field: x.A}
	switch x.Op {
	case api.IGlobal, api.IField:
	case api.ISetGlobal, api.ISetField:
		want.Kind, want.Value = api.Write, q.Value
	case api.INew:
		want.Kind = api.Alloc
	default:
		return false
	}
	if x.Op == api.IField || x.Op == api.ISetField {
		want.Node = q.Node
		if q.Node < 1 || q.Node > api.MaxInt {
			return false
		}
	}
	return q == want && machine.IsValue(q.Value)
}

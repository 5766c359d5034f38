// Package machine runs machines and answers their requests from memories, for the layers that have checked codes,
// machines, and memories.
package machine

import (
	"heartwood/api"
	"heartwood/arith"
)

// MaxIdle is how many instructions are executed from one tick to the next one.
const MaxIdle = 100000

// Start returns the machine of a right call of a sound code when it asks for the first time.
func Start(c api.Code, call api.Call, fuel int) api.Machine {
	m := api.Machine{Fuel: fuel}
	r := runner{c, &m}
	r.enter(find(c, call.Proc), call.Args)
	r.run()
	return m
}

// Answer goes on after an answer to the request of a machine, up to its next request. The answer and the machine must be
// valid; the machine is changed.
func Answer(c api.Code, m *api.Machine, n int) {
	r := runner{c, m}
	kind := m.Request.Kind
	m.Request = api.Request{}
	switch {
	case kind == api.Alloc && n == 0:
		r.fail(api.ErrMemory)
		return
	case kind != api.Write:
		r.push(n)
	}
	r.run()
}

// runner runs a machine, which it changes.
type runner struct {
	c api.Code
	m *api.Machine
}

// enter adds a frame for a function.
func (r *runner) enter(f int, args []int) {
	locals := make([]int, r.c.Funcs[f].Locals)
	copy(locals, args)
	r.m.Frames = append(r.m.Frames, api.Frame{Func: f, Locals: locals})
}

// top returns the innermost frame.
func (r *runner) top() *api.Frame { return &r.m.Frames[len(r.m.Frames)-1] }

func (r *runner) push(n int) {
	f := r.top()
	f.Stack = append(f.Stack, n)
}

func (r *runner) pop() int {
	f := r.top()
	last := len(f.Stack) - 1
	n := f.Stack[last]
	f.Stack = f.Stack[:last]
	return n
}

// end makes the request the last one.
func (r *runner) end(x api.Request) {
	r.m.Frames, r.m.Request = nil, x
}

func (r *runner) fail(err api.Errno) { r.end(api.Request{Kind: api.Fail, Fault: err}) }

// run executes instructions until the machine asks for something.
func (r *runner) run() {
	for r.m.Request.Kind == 0 {
		if r.m.Idle == MaxIdle {
			r.fail(api.ErrLimit)
			return
		}
		r.m.Idle++
		f := r.top()
		x := r.c.Funcs[f.Func].Code[f.At]
		f.At++
		r.execute(f, x)
	}
}

// execute executes an instruction of the innermost frame.
func (r *runner) execute(f *api.Frame, x api.Instr) {
	switch x.Op {
	case api.IConst:
		r.push(x.A)
	case api.ILocal:
		r.push(f.Locals[x.A])
	case api.ISetLocal:
		f.Locals[x.A] = r.pop()
	case api.IPop:
		r.pop()
	case api.IDup:
		r.push(f.Stack[len(f.Stack)-1])
	case api.IJump:
		f.At = x.A
	case api.IJumpFalse:
		if r.pop() == 0 {
			f.At = x.A
		}
	case api.ITick:
		r.tick()
	case api.ICall:
		r.call(f, x.A)
	case api.IReturn:
		r.leave(f)
	case api.INeg, api.INot, api.ILog:
		r.push(arith.Unary(operatorOf(x.Op), r.pop()))
	case api.IGlobal, api.ISetGlobal, api.IField, api.ISetField, api.INew:
		r.ask(x)
	default:
		r.compute(x.Op)
	}
}

func (r *runner) tick() {
	if r.m.Fuel == 0 {
		r.fail(api.ErrFuel)
		return
	}
	r.m.Fuel--
	r.m.Idle = 0
}

func (r *runner) call(f *api.Frame, target int) {
	if len(r.m.Frames) == api.MaxCalls {
		r.fail(api.ErrDepth)
		return
	}
	first := len(f.Stack) - r.c.Funcs[target].Params
	args := f.Stack[first:]
	f.Stack = f.Stack[:first]
	r.enter(target, args)
}

func (r *runner) leave(f *api.Frame) {
	value, result := 0, r.c.Funcs[f.Func].Result
	if result {
		value = r.pop()
	}
	r.m.Frames = r.m.Frames[:len(r.m.Frames)-1]
	switch {
	case len(r.m.Frames) == 0:
		r.end(api.Request{Kind: api.Done, Value: value})
	case result:
		r.push(value)
	}
}

// ask makes the request of an access.
func (r *runner) ask(x api.Instr) {
	q := api.Request{Kind: api.Read, Field: x.A}
	switch x.Op {
	case api.INew:
		q.Kind = api.Alloc
	case api.ISetGlobal, api.ISetField:
		q.Kind, q.Value = api.Write, r.pop()
	}
	if x.Op == api.IField || x.Op == api.ISetField {
		if q.Node = r.pop(); q.Node < 1 {
			r.fail(api.ErrNil)
			return
		}
	}
	r.m.Request = q
}

// operatorOf returns the operator of expressions that an instruction computes.
func operatorOf(op int) int {
	switch {
	case op <= api.ILessEqual:
		return op - api.INeg + api.XNeg
	case op == api.ISame:
		return api.XEqual
	case op == api.INotSame:
		return api.XNotEqual
	case op == api.INot:
		return api.XNot
	}
	return op - api.IMax + api.XMax
}

func (r *runner) compute(op int) {
	right := r.pop()
	left := r.pop()
	n, err := arith.Binary(operatorOf(op), left, right)
	if err != api.OK {
		r.fail(err)
		return
	}
	if op >= api.IEqual && op <= api.ILessEqual {
		r.m.Compares++
	}
	r.push(n)
}

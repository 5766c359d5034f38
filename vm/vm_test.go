package vm_test

import (
	"slices"
	"strings"
	"testing"

	"heartwood/api"
	"heartwood/bytecode"
	"heartwood/eval"
	"heartwood/heap"
	"heartwood/vm"
)

// P15.2

func wantStart(t *testing.T, c api.Code, x api.Call, fuel int, want api.Machine) {
	t.Helper()
	m, err := vm.Start(c, x, fuel)
	if err != api.OK || !sameMachine(m, want) {
		t.Errorf("Start = %v %v, want %v", m, err, want)
	}
	if !vm.Valid(c, m) {
		t.Error("not valid")
	}
}

func TestStart(t *testing.T) {
	add := code(t, "p 1 1 yes: tick, local 0, const 1, add, return")
	wantStart(t, add, call("p", 4), 1, api.Machine{Request: done(5), Idle: 4})
	wantStart(t, add, call("p", 4), 0, api.Machine{Request: fail(api.ErrFuel), Idle: 1})
	wantStart(t, add, call("p", api.MaxInt), 9, api.Machine{Request: fail(api.ErrBig), Fuel: 8, Idle: 3})
	global := code(t, "p 0 0 yes: global 0, return")
	wantStart(t, global, call("p"), 7, api.Machine{Frames: []api.Frame{frame(0, 1, nil, nil)}, Request: api.Request{Kind: api.Read}, Fuel: 7, Idle: 1})
	wantStart(t, code(t, "p 0 2 no: const 5, setlocal 1, const 8, const 9, setglobal 1, pop, return"), call("p"), 7, api.Machine{Frames: []api.Frame{frame(0, 5, []int{0, 5}, []int{8})}, Request: api.Request{Kind: api.Write, Field: 1, Value: 9}, Fuel: 7, Idle: 5})
	wantStart(t, code(t, "p 1 1 yes: const 3, local 0, field 7, add, return"), call("p", 6), 7, api.Machine{Frames: []api.Frame{frame(0, 3, []int{6}, []int{3})}, Request: api.Request{Kind: api.Read, Node: 6, Field: 7}, Fuel: 7, Idle: 3})
	wantStart(t, code(t, "p 2 2 no: local 0, local 1, setfield 3, return"), call("p", 6, -2), 7, api.Machine{Frames: []api.Frame{frame(0, 3, []int{6, -2}, nil)}, Request: api.Request{Kind: api.Write, Node: 6, Field: 3, Value: -2}, Fuel: 7, Idle: 3})
	wantStart(t, code(t, "p 0 0 yes: tick, new 1, return"), call("p"), 7, api.Machine{Frames: []api.Frame{frame(0, 2, nil, nil)}, Request: api.Request{Kind: api.Alloc, Field: 1}, Fuel: 6, Idle: 1})
	wantStart(t, code(t, "p 0 0 no: return"), call("p"), 0, api.Machine{Request: done(0), Idle: 1})
	two := code(t, "p 2 3 yes: local 1, local 0, call 1, const 1, add, return; q 2 2 yes: local 0, local 1, setlocal 0, global 1, sub, return")
	wantStart(t, two, call("p", 4, 6), 7, api.Machine{Frames: []api.Frame{frame(0, 3, []int{4, 6, 0}, nil), frame(1, 4, []int{4, 4}, []int{6})}, Request: api.Request{Kind: api.Read, Field: 1}, Fuel: 7, Idle: 7})
	wantStart(t, two, call("q", 4, 6), 7, api.Machine{Frames: []api.Frame{frame(1, 4, []int{6, 6}, []int{4})}, Request: api.Request{Kind: api.Read, Field: 1}, Fuel: 7, Idle: 4})
}

func TestStartErrors(t *testing.T) {
	c := code(t, "p 2 2 no: return; q 0 0 yes: const 1, return")
	want := func(c api.Code, x api.Call, fuel int, want api.Errno) {
		t.Helper()
		if m, err := vm.Start(c, x, fuel); err != want || !isZeroMachine(m) {
			t.Error(m, err)
		}
		if o, m, err := vm.Run(c, mem([]int{0, 0}), x, fuel); err != want || o != (api.Outcome{}) || !isZero(m) {
			t.Error(o, m, err)
		}
		if l, err := vm.Accesses(c, mem([]int{0, 0}), x, fuel); err != want || len(l) != 0 {
			t.Error(l, err)
		}
	}
	unsound := code(t, "p 2 2 no: return")
	unsound.Funcs[0].Code = []api.Instr{{Op: api.IPop}, {Op: api.IReturn}}
	for _, fuel := range []int{-1, 0, api.MaxFuel + 1} {
		want(unsound, call("zz"), fuel, api.ErrArg)
		want(api.Code{Globals: 99}, call("zz"), fuel, api.ErrArg)
	}
	want(c, call("zz"), -1, api.ErrRange)
	want(c, call("zz"), api.MaxFuel+1, api.ErrRange)
	want(c, call("zz", 1<<60), 0, api.ErrName)
	want(c, call(""), 0, api.ErrName)
	want(c, call("p", 1), 0, api.ErrSize)
	want(c, call("p", 1, 2, 1<<60), 0, api.ErrSize)
	want(c, call("q", 1), 0, api.ErrSize)
	want(c, call("p", 1, api.MaxInt+1), 0, api.ErrType)
	want(c, call("p", -api.MaxInt-1, 1), 0, api.ErrType)
	wantStart(t, c, call("p", api.MaxInt, -api.MaxInt), api.MaxFuel, api.Machine{Request: done(0), Fuel: api.MaxFuel, Idle: 1})
}

// P15.2: what instructions do

// value runs instructions that leave one value.
func value(t *testing.T, s string) api.Request {
	t.Helper()
	m, err := vm.Start(code(t, "p 0 3 yes: "+s+", return"), call("p"), 100)
	if err != api.OK {
		t.Fatal(s, err)
	}
	return m.Request
}

func TestInstructions(t *testing.T) {
	for s, want := range map[string]api.Request{
		"const -5": done(-5), "const 5, neg": done(-5), "const 1099511627776, neg": done(-api.MaxInt), "const 7, const -2, add": done(5), "const 7, const -2, sub": done(9), "const 7, const -2, mul": done(-14), "const 7, const -2, div": done(-3), "const -7, const 2, div": done(-3), "const 7, const -2, mod": done(1), "const -7, const 2, mod": done(-1),
		"const 3, const 4, max": done(4), "const 3, const 4, min": done(3), "const 9, log": done(3), "const 0, log": done(0), "const -9, log": done(0), "const 1, log": done(0), "const 8, log": done(3), "const 1099511627776, log": done(40),
		"const 3, const 3, equal": done(1), "const 3, const 4, equal": done(0), "const 3, const 3, notequal": done(0), "const 3, const 4, notequal": done(1), "const 3, const 4, less": done(1), "const 4, const 3, less": done(0), "const 3, const 3, less": done(0), "const 3, const 3, lessequal": done(1), "const 4, const 3, lessequal": done(0), "const 3, const 3, same": done(1), "const 3, const 4, same": done(0), "const 3, const 3, notsame": done(0), "const 3, const 4, notsame": done(1),
		"const 0, not": done(1), "const 1, not": done(0), "const -7, not": done(0), "const 3, dup, mul": done(9), "const 3, const 4, pop": done(3), "const 3, setlocal 2, local 2, local 1, add": done(3),
		"const 1, const 0, div": fail(api.ErrZero), "const 1, const 0, mod": fail(api.ErrZero), "const 1099511627776, const 1, add": fail(api.ErrBig), "const -1099511627776, const 1, sub": fail(api.ErrBig), "const 1048577, const 1048576, mul": fail(api.ErrBig), "const 1048576, const 1048576, mul": done(api.MaxInt), "const 1099511627775, const 1, add": done(api.MaxInt),
		"const 0, field 0": fail(api.ErrNil), "const -3, field 0": fail(api.ErrNil), "const 0, const 7, setfield 0, const 1": fail(api.ErrNil), "const 5, field 1": {Kind: api.Read, Node: 5, Field: 1}, "const 1099511627776, field 1": {Kind: api.Read, Node: api.MaxInt, Field: 1}, "const 1, const 0, setfield 0, const 1": {Kind: api.Write, Node: 1},
		"const 0, jumpfalse 4, const 1, jump 5, const 2": done(2), "const 3, jumpfalse 4, const 1, jump 5, const 2": done(1), "const -1, jumpfalse 4, const 1, jump 5, const 2": done(1),
	} {
		if got := value(t, s); got != want {
			t.Error(s, got, want)
		}
	}
	for s, want := range map[string]int{"equal": 1, "notequal": 1, "less": 1, "lessequal": 1, "same": 0, "notsame": 0, "max": 0, "sub": 0} {
		m, _ := vm.Start(code(t, "p 0 0 yes: const 1, const 2, "+s+", return"), call("p"), 0)
		if m.Compares != want {
			t.Error(s, m.Compares)
		}
	}
}

func TestDepthAndIdle(t *testing.T) {
	deep := code(t, "p 1 1 yes: local 0, jumpfalse 7, local 0, const 1, sub, call 0, return, const 9, return")
	if m, err := vm.Start(deep, call("p", api.MaxCalls-1), 0); err != api.OK || m.Request != done(9) {
		t.Error(m.Request, err)
	}
	if m, err := vm.Start(deep, call("p", api.MaxCalls), 0); err != api.OK || m.Request != fail(api.ErrDepth) || len(m.Frames) != 0 {
		t.Error(m.Request, err)
	}
	loop := code(t, "p 0 0 no: jump 0")
	wantStart(t, loop, call("p"), 5, api.Machine{Request: fail(api.ErrLimit), Fuel: 5, Idle: 100000})
	// 4 instructions in each round, 3 at the end: 24,999 rounds are 99,999 instructions.
	count := code(t, "p 1 1 yes: local 0, const 1, sub, dup, setlocal 0, jumpfalse 7, jump 0, const 4, return")
	if m, err := vm.Start(count, call("p", 14285), 0); err != api.OK || m.Request != done(4) || m.Idle != 7*14285+1 {
		t.Error(m, err)
	}
	if m, err := vm.Start(count, call("p", 14286), 0); err != api.OK || m.Request != fail(api.ErrLimit) || m.Idle != 100000 {
		t.Error(m, err)
	}
	// A tick begins anew; and the instruction of a tick is not counted itself.
	ticks := code(t, "p 1 1 no: tick, local 0, const 1, sub, dup, setlocal 0, jumpfalse 8, jump 0, return")
	if m, err := vm.Start(ticks, call("p", 30000), 30000); err != api.OK || m.Request != done(0) || m.Idle != 7 || m.Fuel != 0 {
		t.Error(m, err)
	}
	exact := code(t, "p 0 0 no: "+strings.Repeat("const 0, pop, ", 49999)+"const 0, pop, return")
	wantStart(t, exact, call("p"), 0, api.Machine{Request: fail(api.ErrLimit), Idle: 100000})
	exact.Funcs[0].Code = append(slices.Repeat([]api.Instr{{Op: api.IConst}, {Op: api.IPop}}, 49999), api.Instr{Op: api.IJump, A: 99999}, api.Instr{Op: api.IReturn})
	wantStart(t, exact, call("p"), 0, api.Machine{Request: done(0), Idle: 100000})
}

// P15.3

func TestNext(t *testing.T) {
	c := code(t, "p 0 1 yes: new 0, setlocal 0, local 0, global 1, setfield 1, local 0, field 0, tick, const 1, const 2, less, add, setglobal 0, const 6, return")
	m, err := vm.Start(c, call("p"), 3)
	step := func(answer int, want api.Machine) {
		t.Helper()
		before := cloneMachine(m)
		next, err := vm.Next(c, m, answer)
		if err != api.OK || !sameMachine(next, want) || !vm.Valid(c, next) {
			t.Fatal(next, err, want)
		}
		if !sameMachine(m, before) {
			t.Fatal("the argument has changed")
		}
		for i := range next.Frames {
			for k := range next.Frames[i].Locals {
				next.Frames[i].Locals[k]++
			}
			for k := range next.Frames[i].Stack {
				next.Frames[i].Stack[k]++
			}
		}
		if !sameMachine(m, before) {
			t.Fatal("the result shares memory with the argument")
		}
		m, _ = vm.Next(c, m, answer)
	}
	if err != api.OK || m.Request != (api.Request{Kind: api.Alloc}) {
		t.Fatal(m, err)
	}
	step(12, api.Machine{Frames: []api.Frame{frame(0, 4, []int{12}, []int{12})}, Request: api.Request{Kind: api.Read, Field: 1}, Fuel: 3, Idle: 4})
	step(-8, api.Machine{Frames: []api.Frame{frame(0, 5, []int{12}, nil)}, Request: api.Request{Kind: api.Write, Node: 12, Field: 1, Value: -8}, Fuel: 3, Idle: 5})
	step(77, api.Machine{Frames: []api.Frame{frame(0, 7, []int{12}, nil)}, Request: api.Request{Kind: api.Read, Node: 12}, Fuel: 3, Idle: 7})
	step(30, api.Machine{Frames: []api.Frame{frame(0, 13, []int{12}, nil)}, Request: api.Request{Kind: api.Write, Value: 31}, Fuel: 2, Compares: 1, Idle: 5})
	step(-1<<63, api.Machine{Request: done(6), Fuel: 2, Compares: 1, Idle: 7})
	for _, answer := range []int{0, 1, 1 << 60} {
		if next, err := vm.Next(c, m, answer); err != api.ErrState || !isZeroMachine(next) {
			t.Error(next, err)
		}
	}
}

func TestNextIsNew(t *testing.T) {
	c := code(t, "p 1 1 yes: const 4, const 5, const 6, global 0, global 1, add, add, add, add, return")
	m, _ := vm.Start(c, call("p", 3), 0)
	next, err := vm.Next(c, m, 7)
	if err != api.OK || !slices.Equal(next.Frames[0].Stack, []int{4, 5, 6, 7}) {
		t.Fatal(next, err)
	}
	next.Frames[0].Stack[0], next.Frames[0].Locals[0] = 99, 99
	again, _ := vm.Next(c, m, 8)
	if !slices.Equal(m.Frames[0].Stack, []int{4, 5, 6}) || !slices.Equal(m.Frames[0].Locals, []int{3}) || !slices.Equal(again.Frames[0].Stack, []int{4, 5, 6, 8}) || !slices.Equal(next.Frames[0].Stack, []int{99, 5, 6, 7}) {
		t.Error("machines share memory", m, next, again)
	}
}

func TestNextErrors(t *testing.T) {
	try := func(s string, answer int, want api.Errno) {
		t.Helper()
		c := code(t, "p 0 1 yes: "+s+", return")
		m, _ := vm.Start(c, call("p"), 3)
		next, err := vm.Next(c, m, answer)
		if err != want || err != api.OK && !isZeroMachine(next) {
			t.Error(s, answer, next, err)
		}
	}
	for _, n := range []int{api.MaxInt + 1, -api.MaxInt - 1, 1 << 62, -1 << 63} {
		try("global 0", n, api.ErrRange)
		try("const 5, field 0", n, api.ErrRange)
		try("new 0", n, api.ErrRange)
		try("const 3, setglobal 1, const 2", n, api.OK)
		try("const 3, const 3, setfield 1, const 2", n, api.OK)
	}
	for _, n := range []int{api.MaxInt, 0, -api.MaxInt} {
		try("global 0", n, api.OK)
	}
	try("new 0", -1, api.ErrRange)
	try("new 0", api.MaxInt, api.OK)
	try("const 1", 0, api.ErrState)
	try("const 1, const 0, div", 1<<60, api.ErrState)
	c := code(t, "p 0 1 yes: new 0, return")
	m, _ := vm.Start(c, call("p"), 3)
	if next, err := vm.Next(c, m, 0); err != api.OK || !sameMachine(next, api.Machine{Request: fail(api.ErrMemory), Fuel: 3, Idle: 1}) {
		t.Error(next, err)
	}
	m.Fuel = -1
	if next, err := vm.Next(c, m, -1); err != api.ErrArg || !isZeroMachine(next) {
		t.Error(next, err)
	}
	m.Fuel = 3
	c.Funcs[0].Code = c.Funcs[0].Code[:1]
	if next, err := vm.Next(c, m, 1); err != api.ErrArg || !isZeroMachine(next) {
		t.Error(next, err)
	}
	// 100,000 instructions may have been executed before the answer.
	c = code(t, "p 0 1 yes: global 0, return")
	m, _ = vm.Start(c, call("p"), 3)
	m.Idle = 100000
	if next, err := vm.Next(c, m, 5); err != api.OK || next.Request != fail(api.ErrLimit) {
		t.Error(next, err)
	}
	m.Idle = 99999
	if next, err := vm.Next(c, m, 5); err != api.OK || next.Request != done(5) || next.Idle != 100000 {
		t.Error(next, err)
	}
}

// P15.1

func TestValid(t *testing.T) {
	c := code(t, "p 1 2 yes: const 1, local 0, call 1, add, return, global 0, return; q 1 1 yes: const 2, const 3, local 0, field 1, add, add, return; r 0 0 yes: const 1, const 2, const 3, setfield 1, return; s 0 0 no: const 1, new 1, setglobal 1, pop, return")
	m, err := vm.Start(c, call("p", 7), 9)
	if err != api.OK || !vm.Valid(c, m) || !sameMachine(m, api.Machine{Frames: []api.Frame{frame(0, 3, []int{7, 0}, []int{1}), frame(1, 4, []int{7}, []int{2, 3})}, Request: api.Request{Kind: api.Read, Node: 7, Field: 1}, Fuel: 9, Idle: 7}) {
		t.Fatal(m, err)
	}
	try := func(base api.Machine, ok bool, changes ...func(m *api.Machine)) {
		t.Helper()
		for i, change := range changes {
			x := cloneMachine(base)
			change(&x)
			if vm.Valid(c, x) != ok {
				t.Error(i, x)
			}
			if next, err := vm.Next(c, x, 1); !ok && (err != api.ErrArg || !isZeroMachine(next)) {
				t.Error(i, next, err)
			}
		}
	}
	type change = func(m *api.Machine)
	var good, bad []change
	for _, n := range []int{-1, 0, 1, 100000, 100001, api.MaxFuel, api.MaxFuel + 1, api.MaxInt, api.MaxInt + 1, -1 << 63} {
		add := func(ok bool, f change) {
			if ok {
				good = append(good, f)
			} else {
				bad = append(bad, f)
			}
		}
		add(n >= 0 && n <= api.MaxFuel, func(m *api.Machine) { m.Fuel = n })
		add(n >= 0 && n <= api.MaxInt, func(m *api.Machine) { m.Compares = n })
		add(n >= 0 && n <= 100000, func(m *api.Machine) { m.Idle = n })
		value := n >= -api.MaxInt && n <= api.MaxInt
		add(value, func(m *api.Machine) { m.Frames[0].Locals[1] = n })
		add(value, func(m *api.Machine) { m.Frames[1].Stack[0] = n })
		add(value, func(m *api.Machine) { m.Frames[0].Stack[0] = n })
		add(n > 0 && n <= api.MaxInt, func(m *api.Machine) { m.Request.Node = n })
		add(n == 1, func(m *api.Machine) { m.Request.Field = n })
		add(n == 0, func(m *api.Machine) { m.Request.Value = n })
		add(n == 0, func(m *api.Machine) { m.Request.Fault = api.Errno(n) })
		add(n == 1, func(m *api.Machine) { m.Request.Kind = n })
		add(n == 1, func(m *api.Machine) { m.Frames[1].Func = n })
		add(n == 0, func(m *api.Machine) { m.Frames[0].Func = n })
	}
	bad = append(bad,
		func(m *api.Machine) { m.Frames = m.Frames[1:2]; m.Frames[0].Stack = m.Frames[0].Stack[:1] }, func(m *api.Machine) { m.Frames = m.Frames[:1] }, func(m *api.Machine) { m.Frames = nil }, func(m *api.Machine) { m.Frames[0], m.Frames[1] = m.Frames[1], m.Frames[0] },
		func(m *api.Machine) { m.Frames[1].Func = 4 }, func(m *api.Machine) { m.Frames[0].Func = 4 }, func(m *api.Machine) { m.Frames[0].At = 2 }, func(m *api.Machine) { m.Frames[0].At = 0 }, func(m *api.Machine) { m.Frames[1].At = 3 }, func(m *api.Machine) { m.Frames[1].At = 8 }, func(m *api.Machine) { m.Frames[1].At = -1 }, func(m *api.Machine) { m.Frames[1].At = 1 << 60 },
		func(m *api.Machine) { m.Frames[0].Locals = m.Frames[0].Locals[:1] }, func(m *api.Machine) { m.Frames[1].Locals = append(m.Frames[1].Locals, 0) }, func(m *api.Machine) { m.Frames[1].Stack = append(m.Frames[1].Stack, 0) }, func(m *api.Machine) { m.Frames[1].Stack = nil }, func(m *api.Machine) { m.Frames[0].Stack = nil }, func(m *api.Machine) { m.Frames[0].Stack = append(m.Frames[0].Stack, 0) },
		// The instruction has no height.
		func(m *api.Machine) {
			m.Frames = []api.Frame{frame(0, 6, []int{0, 0}, nil)}
			m.Request = api.Request{Kind: api.Read}
		},
	)
	good = append(good, func(m *api.Machine) { m.Frames = m.Frames[1:] })
	try(m, true, good...)
	try(m, false, bad...)
	for _, q := range []api.Request{done(5), done(-api.MaxInt), fail(api.ErrNil), fail(api.ErrZero), fail(api.ErrDepth), fail(api.ErrFuel), fail(api.ErrBig), fail(api.ErrMemory), fail(api.ErrLimit)} {
		end := api.Machine{Request: q}
		if !vm.Valid(c, end) {
			t.Error(q)
		}
		try(end, false, func(x *api.Machine) { x.Frames = cloneMachine(m).Frames }, func(x *api.Machine) { x.Request.Node = 1 }, func(x *api.Machine) { x.Request.Field = 1 }, func(x *api.Machine) { x.Fuel = -1 })
	}
	for _, q := range []api.Request{{}, done(api.MaxInt + 1), fail(api.OK), fail(api.ErrType), fail(api.ErrArg), {Kind: 6}, {Kind: -1}, {Kind: api.Done, Fault: api.ErrNil}, {Kind: api.Fail, Fault: api.ErrNil, Value: 1}, {Kind: api.Read}} {
		if vm.Valid(c, api.Machine{Request: q}) {
			t.Error(q)
		}
	}
	testOtherRequests(t, c)
	if c.Globals = 99; vm.Valid(c, m) || vm.Valid(c, api.Machine{Request: done(1)}) {
		t.Error("not sound")
	}
}

func testOtherRequests(t *testing.T, c api.Code) {
	t.Helper()
	for _, x := range []struct {
		m  api.Machine
		ok bool
	}{
		{api.Machine{Frames: []api.Frame{frame(2, 4, nil, []int{1})}, Request: api.Request{Kind: api.Write, Node: 2, Field: 1, Value: 3}}, true}, {api.Machine{Frames: []api.Frame{frame(2, 4, nil, []int{1})}, Request: api.Request{Kind: api.Write, Node: 9, Field: 1, Value: -9}}, true},
		{api.Machine{Frames: []api.Frame{frame(2, 4, nil, []int{1})}, Request: api.Request{Kind: api.Write, Node: 0, Field: 1, Value: 3}}, false}, {api.Machine{Frames: []api.Frame{frame(2, 4, nil, []int{1})}, Request: api.Request{Kind: api.Write, Node: 2, Field: 1, Value: api.MaxInt + 1}}, false}, {api.Machine{Frames: []api.Frame{frame(2, 4, nil, []int{1})}, Request: api.Request{Kind: api.Read, Node: 2, Field: 1}}, false}, {api.Machine{Frames: []api.Frame{frame(2, 4, nil, []int{1, 2})}, Request: api.Request{Kind: api.Write, Node: 2, Field: 1, Value: 3}}, false},
		{api.Machine{Frames: []api.Frame{frame(3, 2, nil, []int{1})}, Request: api.Request{Kind: api.Alloc, Field: 1}}, true}, {api.Machine{Frames: []api.Frame{frame(3, 2, nil, []int{1})}, Request: api.Request{Kind: api.Alloc, Field: 0}}, false}, {api.Machine{Frames: []api.Frame{frame(3, 2, nil, []int{1})}, Request: api.Request{Kind: api.Alloc, Field: 1, Node: 1}}, false}, {api.Machine{Frames: []api.Frame{frame(3, 2, nil, []int{1})}, Request: api.Request{Kind: api.Alloc, Field: 1, Value: 1}}, false},
		{api.Machine{Frames: []api.Frame{frame(3, 3, nil, []int{1})}, Request: api.Request{Kind: api.Write, Field: 1, Value: 8}}, true}, {api.Machine{Frames: []api.Frame{frame(3, 3, nil, []int{1})}, Request: api.Request{Kind: api.Write, Field: 1, Value: 8, Node: 1}}, false}, {api.Machine{Frames: []api.Frame{frame(3, 3, nil, []int{1})}, Request: api.Request{Kind: api.Write, Field: 0, Value: 8}}, false}, {api.Machine{Frames: []api.Frame{frame(3, 1, nil, nil)}, Request: api.Request{Kind: api.Read}}, false},
	} {
		if vm.Valid(c, x.m) != x.ok {
			t.Error(x)
		}
	}
	rec := code(t, "p 0 0 no: call 0, return; q 0 0 no: global 0, pop, return; r 0 0 no: call 1, return")
	frames := slices.Repeat([]api.Frame{frame(0, 1, nil, nil)}, api.MaxCalls)
	q := api.Request{Kind: api.Read}
	last := frame(1, 1, nil, nil)
	if !vm.Valid(rec, api.Machine{Frames: []api.Frame{frame(2, 1, nil, nil), last}, Request: q}) || vm.Valid(rec, api.Machine{Frames: []api.Frame{frame(0, 1, nil, nil), last}, Request: q}) {
		t.Error("the function of the next frame")
	}
	rec = code(t, "p 0 0 no: call 0, global 0, pop, return")
	frames[api.MaxCalls-1].At = 2
	if !vm.Valid(rec, api.Machine{Frames: frames, Request: q}) || vm.Valid(rec, api.Machine{Frames: append([]api.Frame{frames[0]}, frames...), Request: q}) {
		t.Error("the number of frames")
	}
}

// P15.4

func TestRun(t *testing.T) {
	c := code(t, "p 1 1 yes: local 0, field 0, local 0, field 1, less, setglobal 1, new 0, dup, const 5, setfield 1, setglobal 0, global 0, return; q 1 1 no: local 0, local 0, setfield 1, return; n 0 0 yes: new 1, return; f 0 0 no: const 2, setglobal 0, const 1, const 0, div, pop, return")
	m := mem([]int{9, -9}, node(0, 3, 4), node(1))
	o, r, err := vm.Run(c, m, call("p", 1), 0)
	if err != api.OK || o != outcome(api.OK, 3, 1, 4) || !same(r, mem([]int{3, 1}, node(0, 3, 4), node(1), node(0, 0, 5))) || !same(m, mem([]int{9, -9}, node(0, 3, 4), node(1))) {
		t.Error(o, r, err)
	}
	l, err := vm.Accesses(c, m, call("p", 1), 0)
	if err != api.OK || !slices.Equal(l, []api.Access{{Kind: api.Read, Node: 1}, {Kind: api.Read, Node: 1, Field: 1}, {Kind: api.Write, Field: 1}, {Kind: api.Alloc, Node: 3}, {Kind: api.Write, Node: 3, Field: 1}, {Kind: api.Write}, {Kind: api.Read}}) {
		t.Error(l, err)
	}
	r.Nodes[0].F[0], r.Globals[0] = 77, 77
	if m.Nodes[0].F[0] != 3 || m.Globals[0] != 9 {
		t.Error("the result shares memory with the argument")
	}
	for _, x := range []struct {
		call  api.Call
		o     api.Outcome
		want  api.Mem
		count int
	}{
		{call("q", 2), outcome(api.ErrType, 0, 0, 0), m, 0}, {call("q", 3), outcome(api.ErrType, 0, 0, 0), m, 0}, {call("q", api.MaxInt), outcome(api.ErrType, 0, 0, 0), m, 0}, {call("q", 0), outcome(api.ErrNil, 0, 0, 0), m, 0}, {call("q", 1), outcome(api.OK, 0, 0, 1), mem([]int{9, -9}, node(0, 3, 1), node(1)), 1},
		{call("p", 2), outcome(api.ErrType, 0, 0, 0), m, 0}, {call("n"), outcome(api.OK, 3, 0, 1), mem([]int{9, -9}, node(0, 3, 4), node(1), node(1)), 1}, {call("f"), outcome(api.ErrZero, 0, 0, 0), mem([]int{2, -9}, node(0, 3, 4), node(1)), 1},
	} {
		o, r, err := vm.Run(c, m, x.call, 0)
		l, _ := vm.Accesses(c, m, x.call, 0)
		if err != api.OK || o != x.o || !same(r, x.want) || len(l) != x.count {
			t.Error(x.call, o, r, l, err)
		}
	}
	full := mem([]int{0, 0}, slices.Repeat([]api.Node{node(1)}, api.MaxNodes)...)
	if o, r, err := vm.Run(c, full, call("n"), 0); err != api.OK || o != outcome(api.ErrMemory, 0, 0, 0) || len(r.Nodes) != api.MaxNodes {
		t.Error(o, err)
	}
	if l, err := vm.Accesses(c, full, call("n"), 0); err != api.OK || len(l) != 0 {
		t.Error(l, err)
	}
	for _, m := range []api.Mem{{}, mem([]int{0}), mem([]int{0, 0, 0}), mem([]int{0, api.MaxInt + 1}), mem([]int{0, 0}, node(2)), mem([]int{0, 0}, node(-1)), mem([]int{0, 0}, node(0, 1)), mem([]int{0, 0}, node(1, 1)), mem([]int{0, 0}, node(0, 0, -api.MaxInt-1)), mem([]int{0, 0}, slices.Repeat([]api.Node{node(1)}, api.MaxNodes+1)...)} {
		if o, r, err := vm.Run(c, m, call("zz"), -1); err != api.ErrArg || o != (api.Outcome{}) || !isZero(r) {
			t.Error(o, r, err)
		}
		if l, err := vm.Accesses(c, m, call("zz"), -1); err != api.ErrArg || len(l) != 0 {
			t.Error(l, err)
		}
	}
	// References are any values for a memory that fits.
	if o, _, err := vm.Run(c, mem([]int{api.MaxInt, -api.MaxInt}, node(0, -5, 99)), call("p", 1), 0); err != api.OK || o.Fault != api.OK {
		t.Error(o, err)
	}
}

// P15.5: the compiled machine is the interpreter.
func TestMachineIsInterpreter(t *testing.T) {
	for _, p := range programs(t) {
		c := compile(t, p.d)
		m, _ := heap.New(p.d)
		faults := map[api.Errno]int{}
		for _, x := range p.calls {
			for _, fuel := range []int{0, 1, 7, 20, 60000} {
				want, after, err1 := eval.Run(p.d, m, x, fuel)
				got, r, err2 := vm.Run(c, m, x, fuel)
				if err1 != api.OK || err2 != api.OK || got != want || !same(after, r) {
					t.Fatal(x, fuel, got, want, err1, err2)
				}
				trace, _ := eval.Trace(p.d, m, x, fuel)
				l, err := vm.Accesses(c, m, x, fuel)
				if err != api.OK || !slices.Equal(l, trace) {
					t.Fatal(x, fuel, l, trace)
				}
				if fuel == 60000 {
					faults[want.Fault]++
				}
			}
			if x.Proc != "many" {
				_, m, _ = eval.Run(p.d, m, x, 60000)
			}
		}
		for _, err := range []api.Errno{api.ErrNil, api.ErrZero, api.ErrBig, api.ErrDepth, api.ErrFuel, api.ErrMemory} {
			if len(p.d.Procs) > 20 && faults[err] == 0 {
				t.Error("no call with", err)
			}
		}
	}
}

// P15.6: references mean nothing to a machine; all machines on the way are valid.
func TestOtherNames(t *testing.T) {
	for _, p := range programs(t) {
		c := compile(t, p.d)
		m, _ := heap.New(p.d)
		for _, x := range p.calls {
			if x.Proc == "loop" || x.Proc == "many" || x.Proc == "early" {
				continue
			}
			want, after, _ := vm.Run(c, m, x, 5000)
			got := drive(t, c, m, x, 5000)
			if got != want {
				t.Fatal(x, got, want)
			}
			m = after
		}
	}
}

// drive runs a call over a memory in which the node i has the name 1000 + 3 i.
func drive(t *testing.T, c api.Code, m api.Mem, x api.Call, fuel int) api.Outcome {
	t.Helper()
	heapOf := map[[2]int]int{}
	refs := map[[2]int]bool{}
	rename := func(n int) int { return 1000 + 3*n }
	types := map[int]int{}
	for i, n := range m.Nodes {
		types[rename(i+1)] = n.Type
		for k, v := range n.F {
			heapOf[[2]int{rename(i + 1), k}] = v
		}
	}
	for k, v := range m.Globals {
		heapOf[[2]int{0, k}] = v
	}
	// The references of both programs: in trees l and r, in the other one n; and the global variable 0.
	isRef := func(node, field int) bool { return node == 0 && field == 0 || node > 0 && field >= 2 }
	if len(c.Fields) > 0 && c.Fields[0] == 2 {
		isRef = func(node, field int) bool { return node == 0 && field == 0 || node > 0 && field == 1 }
	}
	count := len(m.Nodes)
	machine, err := vm.Start(c, x, fuel)
	nodes := 0
	for err == api.OK && machine.Request.Kind < api.Done {
		if !vm.Valid(c, machine) {
			t.Fatal("not valid", machine)
		}
		q := machine.Request
		key, answer := [2]int{q.Node, q.Field}, 0
		switch q.Kind {
		case api.Read:
			answer = heapOf[key]
			if isRef(q.Node, q.Field) && answer > 0 && !refs[key] {
				answer = rename(answer)
			}
		case api.Write:
			heapOf[key], refs[key] = q.Value, true
		case api.Alloc:
			count++
			answer = rename(count)
			nodes++
		}
		if q.Node > 0 {
			nodes++
		}
		machine, err = vm.Next(c, machine, answer)
	}
	if err != api.OK || !vm.Valid(c, machine) {
		t.Fatal(machine, err)
	}
	return api.Outcome{Fault: machine.Request.Fault, Value: machine.Request.Value, Cost: api.Cost{Compares: machine.Compares, Nodes: nodes}}
}

// P15.6: with more fuel a call that does not fail with ErrFuel runs as before.
func TestMoreFuel(t *testing.T) {
	p := programs(t)[0]
	c := compile(t, p.d)
	m, _ := heap.New(p.d)
	for _, x := range p.calls[:60] {
		full, after, _ := vm.Run(c, m, x, api.MaxFuel)
		for fuel := range 80 {
			o, r, err := vm.Run(c, m, x, fuel)
			if err != api.OK || o.Fault != api.ErrFuel && (o != full || !same(r, after)) {
				t.Fatal(x, fuel, o, full)
			}
		}
		m = after
	}
	if _, _, err := bytecode.Check(c); err != api.OK {
		t.Error(err)
	}
}

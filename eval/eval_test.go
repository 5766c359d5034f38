package eval_test

import (
	"reflect"
	"slices"
	"strings"
	"testing"

	"heartwood/api"
	"heartwood/eval"
	"heartwood/heap"
)

// P13.1

// want runs the body of p with the arguments 7, -3, the node 1, and true.
func want(t *testing.T, s string, o api.Outcome, after api.Mem) {
	t.Helper()
	d, m := body(t, s), start()
	got, r, err := eval.Run(d, m, call("p", 7, -3, 1, 1), 1000)
	if err != api.OK || got != o || !same(r, after) {
		t.Errorf("%s: %v %v %v, want %v %v", s, got, r, err, o, after)
	}
	if !same(m, start()) {
		t.Error("the argument has changed")
	}
	if !heap.Valid(d, r) {
		t.Error("the memory is not valid")
	}
}

func TestExpressions(t *testing.T) {
	for _, c := range []struct {
		s               string
		value           int
		compares, nodes int
	}{
		{"i", 7, 0, 0}, {"c", 10, 0, 0}, {"12", 12, 0, 0}, {"-i", -7, 0, 0}, {"i + j", 4, 0, 0}, {"i - j", 10, 0, 0}, {"i * j", -21, 0, 0}, {"i / j", -2, 0, 0}, {"i % j", 1, 0, 0}, {"-i / 2", -3, 0, 0}, {"-i % 2", -1, 0, 0}, {"-i / j", 2, 0, 0}, {"max(i, j)", 7, 0, 0}, {"min(i, j)", -3, 0, 0},
		{"log(i)", 2, 0, 0}, {"log(8)", 3, 0, 0}, {"log(1)", 0, 0, 0}, {"log(0)", 0, 0, 0}, {"log(j)", 0, 0, 0}, {"log(1099511627776)", 40, 0, 0},
		{"q.k", 5, 0, 1}, {"q.n.k", 6, 0, 2}, {"u.t.k", 6, 0, 2}, {"r.k", 5, 0, 1}, {"new T.k", 0, 0, 2},
		{"if(i == 7, 1, 2)", 1, 1, 0}, {"if(i != 7, 1, 2)", 2, 1, 0}, {"if(j < i, 1, 2)", 1, 1, 0}, {"if(i <= i, 1, 2)", 1, 1, 0}, {"if(i < i, 1, 2)", 2, 1, 0}, {"if(q == r, 1, 2)", 1, 0, 0}, {"if(q != r.n, 1, 2)", 1, 0, 1}, {"if(x == b, 1, 2)", 1, 0, 0}, {"if(nil == nil, 1, 2)", 1, 0, 0}, {"if(q.n.n == nil, 1, 2)", 1, 0, 2}, {"if(q.k == r.n.k, 1, 2)", 2, 1, 3}, {"if(q.on != x, 1, 2)", 2, 0, 1}, {"if((not x) == b, 1, 2)", 2, 0, 0}, {"if(-i == j, 1, 2)", 2, 1, 0}, {"if(log(i) != 2, 1, 2)", 2, 1, 0}, {"if((i < j) == (j < i), 1, 2)", 2, 2, 0}, {"if((x and b) != b, 1, 2)", 2, 0, 0}, {"if(max(i, j) == i + 0, 1, 2)", 1, 1, 0}, {"if(true == x, 1, 2)", 1, 0, 0}, {"if(7 == i, 1, 2)", 1, 1, 0}, {"if(c == 10, 1, 2)", 1, 1, 0}, {"if(b == x, 1, 2)", 1, 0, 0},
		{"if(if(x, i, j) == 7, 1, 2)", 1, 1, 0}, {"if(if(x, nil, q) == nil, 1, 2)", 1, 0, 0},
		{"if(x and i == j, 1, 2)", 2, 1, 0}, {"if(not x and i == j, 1, 2)", 2, 0, 0}, {"if(x or i == j, 1, 2)", 1, 0, 0}, {"if(not x or i == j, 1, 2)", 2, 1, 0}, {"if(true and false, 1, 2)", 2, 0, 0}, {"if(false or true, 1, 2)", 1, 0, 0}, {"if(not false, 1, 2)", 1, 0, 0}, {"if(x, i, q.n.n.k)", 7, 0, 0}, {"if(x and (i < j or j < i), i, 1 / 0)", 7, 2, 0},
	} {
		after := start()
		if strings.Contains(c.s, "new") {
			after.Nodes = append(after.Nodes, node(0, 0, 0, 0))
		}
		want(t, "return "+c.s+";", outcome(api.OK, c.value, c.compares, c.nodes), after)
	}
}

func TestStatements(t *testing.T) {
	m := start()
	want(t, "", outcome(api.OK, 0, 0, 0), m)
	want(t, "i = 1; return i; return 2;", outcome(api.OK, 1, 0, 0), m)
	want(t, "i = i + 1; j = i; i = 0; return j;", outcome(api.OK, 8, 0, 0), m)
	want(t, "if x { return 1; } return 2;", outcome(api.OK, 1, 0, 0), m)
	want(t, "if not x { return 1; } else { i = 9; } return i;", outcome(api.OK, 9, 0, 0), m)
	want(t, "if not x { return 1; } return i;", outcome(api.OK, 7, 0, 0), m)
	want(t, "while 0 < i { i = i - 1; j = j + 2; } return j;", outcome(api.OK, 11, 8, 0), m)
	want(t, "while true { if i == 3 { return i; } i = i - 1; }", outcome(api.OK, 3, 5, 0), m)
	want(t, "while x { x = false; while i < 9 { i = i + 1; } } return i;", outcome(api.OK, 9, 3, 0), m)
	m.Globals[1] = 4
	want(t, "c = 4; return c;", outcome(api.OK, 4, 0, 0), m)
	m = start()
	m.Globals = []int{0, 17, 0, 0}
	want(t, "r = nil; c = c + i; b = not x; u = nil;", outcome(api.OK, 0, 0, 0), m)
	m = start()
	m.Nodes[0].F, m.Nodes[1].F = []int{5, 1, 1}, []int{-3, 0, 1}
	want(t, "q.n.k = j; q.n.on = q.on; q.n = q; return q.n.n.k;", outcome(api.OK, 5, 0, 9), m)
	m = start()
	m.Nodes = append(m.Nodes, node(0, 7, 1, 1), node(1, 4))
	m.Globals[0], m.Globals[3] = 4, 5
	want(t, "r = new T; r.k = i; r.n = q; r.on = x; u = new U; u.t = r; return u.t.k;", outcome(api.OK, 7, 0, 8), m)
}

func TestCalls(t *testing.T) {
	d := program(t, `proc main(n int) int { local k int; k = 100; twice(n); return k + twice(n) + fact(n); }
		proc twice(k int) int { k = k * 2; c = c + k; return k; }
		proc fact(n int) int { if n < 2 { return 1; } return n * fact(n - 1); }
		proc nothing() { c = 3; }
		proc early() { c = 4; return; c = 5; }
		proc link(q T) T { q = push(q, 1); return push(q, 2); }
		proc push(n T, k int) T { local x T; x = new T; x.k = k; x.n = n; return x; }
		proc three() int { r = link(nil); return r.k * 10 + r.n.k; }
		proc order() int { return add(step(1), add(step(2), step(3))); }
		proc step(n int) int { c = c * 10 + n; return c; }
		proc add(x int, y int) int { c = c * 10; return x + y; }
		proc eq() int { return if(fact(3) == fact(3), if(link(nil) == nil, 1, 2), 3); }
		proc eq1() int { return if(fact(3) == 6, 1, 2); }
		proc eq2() int { return if(link(nil) == nil, 1, 2); }
		proc flag(b bool) bool { return not b; }
		proc eq3(b bool) int { return if(flag(b) == b, 1, if(flag(b) != true, 2, 3)); }
		proc often(n int) int { while 0 < n { flag(true); n = n - 1; } return fact(2); }
		proc down(n int) int { return if(n == 0, 0, down(n - 1)); }`)
	for _, c := range []struct {
		call api.Call
		m    api.Mem
		o    api.Outcome
		want api.Mem
	}{
		{call("main", 4), empty(), outcome(api.OK, 132, 4, 0), mem([]int{0, 16, 0, 0})},
		{call("nothing"), empty(), outcome(api.OK, 0, 0, 0), mem([]int{0, 3, 0, 0})},
		{call("early"), empty(), outcome(api.OK, 0, 0, 0), mem([]int{0, 4, 0, 0})},
		{call("three"), empty(), outcome(api.OK, 21, 0, 9), mem([]int{2, 0, 0, 0}, node(0, 1, 0, 0), node(0, 2, 1, 0))},
		{call("order"), empty(), outcome(api.OK, 1+12+123, 0, 0), mem([]int{0, 12300, 0, 0})},
		{call("eq"), empty(), outcome(api.OK, 2, 7, 6), mem([]int{0, 0, 0, 0}, node(0, 1, 0, 0), node(0, 2, 1, 0))},
		{call("eq1"), empty(), outcome(api.OK, 1, 4, 0), empty()},
		{call("eq2"), empty(), outcome(api.OK, 2, 0, 6), mem([]int{0, 0, 0, 0}, node(0, 1, 0, 0), node(0, 2, 1, 0))},
		{call("eq3", 1), empty(), outcome(api.OK, 2, 0, 0), empty()},
		{call("eq3", 0), empty(), outcome(api.OK, 3, 0, 0), empty()},
		{call("often", 1000), empty(), outcome(api.OK, 2, 1003, 0), empty()},
		{call("link", 2), start(), outcome(api.OK, 5, 0, 6), mem(start().Globals, append(start().Nodes, node(0, 1, 2, 0), node(0, 2, 4, 0))...)},
		{call("push", 0, -5), start(), outcome(api.OK, 4, 0, 3), mem(start().Globals, append(start().Nodes, node(0, -5, 0, 0))...)},
		{call("down", api.MaxCalls-1), empty(), outcome(api.OK, 0, api.MaxCalls, 0), empty()},
		{call("down", api.MaxCalls), empty(), outcome(api.ErrDepth, 0, api.MaxCalls, 0), empty()},
	} {
		o, m, err := eval.Run(d, c.m, c.call, api.MaxFuel)
		if err != api.OK || o != c.o || !same(m, c.want) {
			t.Error(c.call, o, m, err)
		}
	}
}

func TestFaults(t *testing.T) {
	m := start()
	for _, c := range []struct {
		s               string
		fault           api.Errno
		compares, nodes int
	}{
		{"return q.n.n.k;", api.ErrNil, 0, 2}, {"q = nil; return q.k;", api.ErrNil, 0, 0}, {"q.n.n.n = q;", api.ErrNil, 0, 2}, {"q.n.n.k = q.k;", api.ErrNil, 0, 3}, {"q.n.n.k = 1 / 0;", api.ErrZero, 0, 2}, {"q.n.n.n.k = 1 / 0;", api.ErrNil, 0, 2},
		{"return i / 0;", api.ErrZero, 0, 0}, {"return i % (j + 3);", api.ErrZero, 0, 0}, {"return 1099511627776 / 0;", api.ErrZero, 0, 0}, {"return 1099511627776 + 1;", api.ErrBig, 0, 0}, {"return -1099511627776 - 1;", api.ErrBig, 0, 0}, {"return 1099511627776 * 2;", api.ErrBig, 0, 0}, {"return 1099511627776 * -1099511627776;", api.ErrBig, 0, 0}, {"return 1048577 * 1048577;", api.ErrBig, 0, 0},
		{"return if(i < 1 / 0, 1, 2);", api.ErrZero, 0, 0}, {"return if(i < 8 and q.n.n.k == 1, 1, 2);", api.ErrNil, 1, 2}, {"while true { }", api.ErrFuel, 0, 0}, {"while i == 7 { }", api.ErrFuel, 1000, 0}, {"return p(i, j, q.n, x);", api.ErrNil, 0, 2},
	} {
		want(t, c.s, outcome(c.fault, 0, c.compares, c.nodes), m)
	}
	// The memory stays as it is when the call ends.
	m.Globals[1], m.Nodes[0].F = 11, []int{7, 0, 1}
	want(t, "c = 11; q.k = i; q.n = nil; c = c / 0; c = 12;", outcome(api.ErrZero, 0, 0, 2), m)
	want(t, "c = 11; q.k = i; q.n = nil; q.n.n.k = 5;", outcome(api.ErrNil, 0, 0, 3), m)
	for s, n := range map[string]int{"1048576 * 1048576": api.MaxInt, "-1048576 * 1048576": -api.MaxInt, "1099511627775 + 1": api.MaxInt, "-1099511627775 - 1": -api.MaxInt, "--1099511627776": api.MaxInt, "1099511627776 / -1": -api.MaxInt, "1099511627776 % 1099511627775": 1} {
		want(t, "return "+s+";", outcome(api.OK, n, 0, 0), start())
	}
}

func TestMemoryFault(t *testing.T) {
	d := program(t, "proc two() int { r = new T; r.n = new T; c = 1; return 5; }")
	full := mem([]int{0, 0, 0, 0}, slices.Repeat([]api.Node{node(1, 0)}, api.MaxNodes-1)...)
	o, m, err := eval.Run(d, full, call("two"), 100)
	if err != api.OK || o != outcome(api.ErrMemory, 0, 0, 1) || len(m.Nodes) != api.MaxNodes || m.Globals[0] != api.MaxNodes || m.Globals[1] != 0 {
		t.Error(o, len(m.Nodes), m.Globals, err)
	}
	full.Nodes = full.Nodes[1:]
	if o, m, err := eval.Run(d, full, call("two"), 100); err != api.OK || o != outcome(api.OK, 5, 0, 3) || len(m.Nodes) != api.MaxNodes {
		t.Error(o, err)
	}
	if l, err := eval.Trace(d, mem([]int{0, 0, 0, 0}, slices.Repeat([]api.Node{node(1, 0)}, api.MaxNodes-1)...), call("two"), 100); err != api.OK || !slices.Equal(l, []api.Access{alloc(api.MaxNodes, 0), write(0, 0), read(0, 0)}) {
		t.Error(l, err)
	}
}

// P13.2

func TestTrace(t *testing.T) {
	for s, want := range map[string][]api.Access{
		"":                                      nil,
		"i = j; return i;":                      nil,
		"return c;":                             {read(0, 1)},
		"c = c + q.k;":                          {read(0, 1), read(1, 0), write(0, 1)},
		"q.n.k = u.t.k;":                        {read(1, 1), read(0, 3), read(3, 0), read(2, 0), write(2, 0)},
		"r = new T; r.n = new T; u = new U;":    {alloc(4, 0), write(0, 0), read(0, 0), alloc(5, 0), write(4, 1), alloc(6, 1), write(0, 3)},
		"if b or q.on { r.on = b and q.n.on; }": {read(0, 2), read(0, 0), read(0, 2), read(1, 1), read(2, 2), write(1, 2)},
		"while q != nil { q = q.n; } return q.k;": {read(1, 1), read(2, 1)},
	} {
		l, err := eval.Trace(body(t, s), start(), call("p", 7, -3, 1, 1), 1000)
		if err != api.OK || !slices.Equal(l, want) {
			t.Error(s, l, err)
		}
	}
}

// The chapter's example.
func TestTraceOfGet(t *testing.T) {
	d := parse(t, structures)
	m, _ := heap.New(d)
	_, m, err := eval.Script(d, m, []api.Call{call("put", 5), call("put", 3), call("put", 8)}, 1000)
	if err != api.OK {
		t.Fatal(err)
	}
	l, err := eval.Trace(d, m, call("get", 8), 1000)
	if err != api.OK || !slices.Equal(l, []api.Access{read(0, 0), read(1, 0), read(1, 0), read(1, 2), read(3, 0), read(3, 0)}) {
		t.Error(l, err)
	}
}

func TestTicks(t *testing.T) {
	for s, want := range map[string]int{
		"": 0, "return 1;": 1, "i = 1; j = 2; c = 3;": 3, "if x { i = 1; }": 2, "if x { } else { i = 1; }": 1, "while false { i = 1; }": 1, "while 0 < i { i = i - 1; }": 15, "while 0 < i { if x { i = i - 2; } }": 13, "while true { }": 1000,
		"while true { return 1; }": 2, "return i / 0;": 1, "i = 1; return 1; i = 2;": 2,
	} {
		n, err := eval.Ticks(body(t, s), start(), call("p", 7, -3, 1, 1), 1000)
		if err != api.OK || n != want {
			t.Error(s, n, err)
		}
	}
	d := program(t, "proc p() int { return q() + q(); } proc q() int { c = 1; return 2; }")
	if n, err := eval.Ticks(d, empty(), call("p"), 1000); n != 5 || err != api.OK {
		t.Error(n, err)
	}
}

// The errors that all functions have.
func wantError(t *testing.T, d api.Desc, m api.Mem, c api.Call, fuel int, want api.Errno) {
	t.Helper()
	if o, r, err := eval.Run(d, m, c, fuel); err != want || o != (api.Outcome{}) || !isZero(r) {
		t.Errorf("Run = %v %v %v, want %v", o, r, err, want)
	}
	if l, err := eval.Trace(d, m, c, fuel); err != want || len(l) != 0 {
		t.Errorf("Trace = %v %v, want %v", l, err, want)
	}
	if n, err := eval.Ticks(d, m, c, fuel); err != want || n != 0 {
		t.Errorf("Ticks = %v %v, want %v", n, err, want)
	}
	if l, r, err := eval.Script(d, m, []api.Call{c}, fuel); err != want || len(l) != 0 || !isZero(r) {
		t.Errorf("Script = %v %v %v, want %v", l, r, err, want)
	}
}

func TestErrors(t *testing.T) {
	good := body(t, "return 1;")
	for _, fuel := range []int{0, -1} {
		for _, d := range []api.Desc{{}, body(t, "return x;"), program(t, "invariant i = 1"), program(t, "proc c() { } proc c() { }")} {
			wantError(t, d, start(), call("zz"), fuel, api.ErrArg)
		}
		for _, m := range []api.Mem{{}, mem([]int{1, 0, 0, 0}), mem([]int{0, 0, 2, 0}), mem([]int{0, 0, 0, 0}, node(0))} {
			wantError(t, good, m, call("zz"), fuel, api.ErrArg)
		}
	}
	for _, fuel := range []int{-1, api.MaxFuel + 1, 1 << 62} {
		wantError(t, good, start(), call("zz"), fuel, api.ErrRange)
	}
	wantError(t, good, start(), call("zz", 1), 0, api.ErrName)
	wantError(t, good, start(), call(""), 0, api.ErrName)
	wantError(t, good, start(), call("p"), 0, api.ErrSize)
	wantError(t, good, start(), call("p", 1, 2, 1, 1, 1), 0, api.ErrSize)
	for _, args := range [][]int{{api.MaxInt + 1, 0, 0, 0}, {0, -api.MaxInt - 1, 0, 0}, {0, 0, 3, 0}, {0, 0, 4, 0}, {0, 0, -1, 0}, {0, 0, 0, 2}, {0, 0, 0, -1}, {1 << 62, 0, 0, 0}, {0, 0, 1 << 62, 0}} {
		wantError(t, good, start(), call("p", args...), 0, api.ErrType)
	}
	for _, args := range [][]int{{api.MaxInt, -api.MaxInt, 0, 0}, {0, 0, 2, 1}} {
		if o, _, err := eval.Run(good, start(), call("p", args...), api.MaxFuel); err != api.OK || o.Value != 1 {
			t.Error(o, err)
		}
	}
	if o, _, err := eval.Run(good, start(), call("p", 0, 0, 0, 0), 0); err != api.OK || o != outcome(api.ErrFuel, 0, 0, 0) {
		t.Error(o, err)
	}
}

// P13.3

func TestScript(t *testing.T) {
	d := program(t, "proc push(k int) T { local x T; x = new T; x.k = k; x.n = r; r = x; return x; } proc key(x T) int { return x.k; } proc fail(n int) { c = n; c = 1 / 0; } proc loop() { while true { } } proc size() int { local n int; local x T; x = r; while x != nil { n = n + 1; x = x.n; } return n; }")
	l := []api.Call{call("push", 4), call("fail", 9), call("push", 6), call("key", 1), call("loop"), call("key", 2), call("size"), call("key", 0)}
	got, m, err := eval.Script(d, empty(), l, 50)
	want := []api.Outcome{outcome(api.OK, 1, 0, 3), outcome(api.ErrZero, 0, 0, 0), outcome(api.OK, 2, 0, 3), outcome(api.OK, 4, 0, 1), outcome(api.ErrFuel, 0, 0, 0), outcome(api.OK, 6, 0, 1), outcome(api.OK, 2, 0, 2), outcome(api.ErrNil, 0, 0, 0)}
	if err != api.OK || !slices.Equal(got, want) || !same(m, mem([]int{2, 9, 0, 0}, node(0, 4, 0, 0), node(0, 6, 1, 0))) {
		t.Error(got, m, err)
	}
	if got, m, err := eval.Script(d, start(), nil, 0); err != api.OK || len(got) != 0 || !same(m, start()) {
		t.Error(got, m, err)
	}
	// The errors of a call are looked for when its turn comes.
	fails := func(l []api.Call, want api.Errno) {
		t.Helper()
		if got, m, err := eval.Script(d, empty(), l, 50); err != want || len(got) != 0 || !isZero(m) {
			t.Error(got, m, err)
		}
	}
	fails([]api.Call{call("push", 1), call("key", 2), call("zz")}, api.ErrType)
	fails([]api.Call{call("key", 1), call("push", 1)}, api.ErrType)
	fails([]api.Call{call("push", 1), call("zz"), call("key", 2)}, api.ErrName)
	fails([]api.Call{call("push"), call("zz")}, api.ErrSize)
	many := slices.Repeat([]api.Call{call("size")}, api.MaxOps)
	if got, _, err := eval.Script(d, empty(), many, 50); err != api.OK || len(got) != api.MaxOps {
		t.Error(len(got), err)
	}
	fails(append(many, call("zz")), api.ErrFull)
	if got, _, err := eval.Script(d, empty(), append(many, call("zz")), -1); err != api.ErrRange || len(got) != 0 {
		t.Error(len(got), err)
	}
}

// P13.4

func TestFuel(t *testing.T) {
	d := parse(t, structures)
	for _, l := range scripts() {
		m, _ := heap.New(d)
		for _, c := range l {
			full, after, err1 := eval.Run(d, m, c, api.MaxFuel)
			trace, err2 := eval.Trace(d, m, c, api.MaxFuel)
			ticks, err3 := eval.Ticks(d, m, c, api.MaxFuel)
			if err1 != api.OK || err2 != api.OK || err3 != api.OK {
				t.Fatal(c, err1, err2, err3)
			}
			for fuel := range ticks + 2 {
				o, r, err := eval.Run(d, m, c, fuel)
				part, _ := eval.Trace(d, m, c, fuel)
				n, _ := eval.Ticks(d, m, c, fuel)
				if fuel >= ticks && (err != api.OK || o != full || !same(r, after) || !slices.Equal(part, trace) || n != ticks) {
					t.Fatal(c, fuel, o, full)
				}
				if fuel < ticks && (o.Fault != api.ErrFuel || o.Value != 0 || n != fuel || len(part) > len(trace) || !slices.Equal(part, trace[:len(part)])) {
					t.Fatal(c, fuel, o, n)
				}
				nodes := 0
				for _, a := range part {
					if a.Kind == api.Alloc || a.Node > 0 {
						nodes++
					}
				}
				if o.Cost.Nodes != nodes || o.Cost.Blocks != 0 || !heap.Valid(d, r) {
					t.Fatal(c, fuel, o, nodes)
				}
			}
			m = after
		}
	}
}

// Replaying the accesses: a call without writes and allocations changes nothing.
func TestAccessesTellChanges(t *testing.T) {
	d := parse(t, structures)
	for _, l := range scripts() {
		m, _ := heap.New(d)
		for _, c := range l {
			trace, _ := eval.Trace(d, m, c, api.MaxFuel)
			_, after, _ := eval.Run(d, m, c, api.MaxFuel)
			changes := slices.ContainsFunc(trace, func(a api.Access) bool { return a.Kind != api.Read })
			if !changes && !same(m, after) {
				t.Fatal(c)
			}
			for i := range after.Nodes {
				for k, v := range after.Nodes[i].F {
					written := slices.Contains(trace, write(i+1, k))
					if i < len(m.Nodes) && !written && m.Nodes[i].F[k] != v || i >= len(m.Nodes) && !written && v != 0 {
						t.Fatal(c, i, k)
					}
				}
			}
			m = after
		}
	}
}

// Other numbers of nodes, and further ones, change no outcome.
func TestNumbersDoNotMatter(t *testing.T) {
	d := parse(t, structures)
	for _, l := range scripts() {
		a, _ := heap.New(d)
		b := a
		for _, c := range l {
			b, _ = heap.Canonical(d, b)
			b = reversed(b)
			x, y := api.Outcome{}, api.Outcome{}
			x, a, _ = eval.Run(d, a, c, api.MaxFuel)
			y, b, _ = eval.Run(d, b, c, api.MaxFuel)
			if ok, err := heap.Same(d, a, b); x != y || !ok || err != api.OK {
				t.Fatal(c, x, y)
			}
		}
	}
}

// reversed returns a memory of structures with the nodes in the reverse order, after one that is not reached.
func reversed(m api.Mem) api.Mem {
	ref := func(n int) int {
		if n == 0 {
			return 0
		}
		return len(m.Nodes) - n + 2
	}
	r := mem([]int{ref(m.Globals[0]), m.Globals[1], m.Globals[2]}, node(0, 5, 1, 1))
	for _, n := range slices.Backward(m.Nodes) {
		r.Nodes = append(r.Nodes, node(0, n.F[0], ref(n.F[1]), ref(n.F[2])))
	}
	return r
}

func TestResultsAreNew(t *testing.T) {
	d, m := body(t, "q.k = 1; return new T.k;"), start()
	before := body(t, "q.k = 1; return new T.k;")
	c := call("p", 7, -3, 1, 1)
	_, r, _ := eval.Run(d, m, c, 100)
	r.Globals[0] = 99
	for i := range r.Nodes {
		for k := range r.Nodes[i].F {
			r.Nodes[i].F[k] = 99
		}
	}
	if !same(m, start()) || !reflect.DeepEqual(d, before) || !slices.Equal(c.Args, []int{7, -3, 1, 1}) {
		t.Error(m, c)
	}
	_, r, _ = eval.Script(d, m, nil, 100)
	r.Nodes[0].F[0], r.Globals[1] = 99, 99
	if !same(m, start()) {
		t.Error(m)
	}
}

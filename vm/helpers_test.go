package vm_test

import (
	"reflect"
	"slices"
	"strconv"
	"strings"
	"testing"

	"heartwood/api"
	"heartwood/bytecode"
	"heartwood/parser"
)

func parse(t *testing.T, s string) api.Desc {
	t.Helper()
	d, place, err := parser.Parse(s)
	if err != api.OK {
		t.Fatal(s, place, err)
	}
	return d
}

func compile(t *testing.T, d api.Desc) api.Code {
	t.Helper()
	c, err := bytecode.Compile(d)
	if err != api.OK {
		t.Fatal(err)
	}
	return c
}

// code reads a code with two types, with 2 fields and none, and 2 global variables; instructions are separated by
// commas, and functions by semicolons: the head of each one stands before a colon.
func code(t *testing.T, s string) api.Code {
	t.Helper()
	text := "fields 2 0\nglobals 2\n"
	for _, f := range strings.Split(s, "; ") {
		head, body, _ := strings.Cut(f, ": ")
		text += "func " + head + "\n" + strings.ReplaceAll(body, ", ", "\n") + "\n"
	}
	c, err := bytecode.Parse(text)
	if err != api.OK {
		t.Fatal(text, err)
	}
	if _, _, err := bytecode.Check(c); err != api.OK {
		t.Fatal(text, err)
	}
	return c
}

func call(proc string, args ...int) api.Call { return api.Call{Proc: proc, Args: args} }

func node(typ int, f ...int) api.Node { return api.Node{Type: typ, F: f} }

func mem(globals []int, nodes ...api.Node) api.Mem { return api.Mem{Globals: globals, Nodes: nodes} }

func same(a, b api.Mem) bool {
	return slices.Equal(a.Globals, b.Globals) && slices.EqualFunc(a.Nodes, b.Nodes, func(x, y api.Node) bool { return x.Type == y.Type && slices.Equal(x.F, y.F) })
}

func isZero(m api.Mem) bool { return len(m.Globals) == 0 && len(m.Nodes) == 0 }

func cloneMachine(m api.Machine) api.Machine {
	frames := []api.Frame{}
	for _, f := range m.Frames {
		f.Locals, f.Stack = append([]int{}, f.Locals...), append([]int{}, f.Stack...)
		frames = append(frames, f)
	}
	m.Frames = frames
	return m
}

func sameMachine(a, b api.Machine) bool { return reflect.DeepEqual(cloneMachine(a), cloneMachine(b)) }

func frame(f, at int, locals, stack []int) api.Frame {
	return api.Frame{Func: f, At: at, Locals: locals, Stack: stack}
}

func isZeroMachine(m api.Machine) bool { return sameMachine(m, api.Machine{}) }

func done(value int) api.Request { return api.Request{Kind: api.Done, Value: value} }

func fail(err api.Errno) api.Request { return api.Request{Kind: api.Fail, Fault: err} }

func outcome(fault api.Errno, value, compares, nodes int) api.Outcome {
	return api.Outcome{Fault: fault, Value: value, Cost: api.Cost{Compares: compares, Nodes: nodes}}
}

// programs are descriptions with calls of them: with all kinds of expressions, statements, and faults.
func programs(t *testing.T) []program {
	number := func(format string, n int) string { return strings.ReplaceAll(format, "#", strconv.Itoa(n)) }
	var trees []api.Call
	for i := range 40 {
		trees = append(trees, call("put", i*37%23), call("get", i*7%29), call("remove", i*11%23), call("height"))
	}
	faults, calls := "", []api.Call{}
	for i, e := range []string{
		"a / b", "a % b", "a + b", "a - b", "a * b", "log(a)", "max(a, b)", "min(a, b)", "if(a < b, 1, 2)", "if(a <= b, 1, 2)", "if(a == b, 1, 2)", "if(a != b, 1, 2)", "if(r == nil, 1, 2)", "if(r != r.n, 1, 2)", "if(x == (a < b), 1, 2)", "if(x != (a < b), 1, 2)",
		"if(a < b and b < a / b, 1, 2)", "if(a < b or b < a / b, 1, 2)", "if(not (a < b) and r.n.k == 1, 1, 2)", "if(not x or r.n.n == nil, 1, 2)", "r.n.k", "r.n.n.k", "if(x, r, nil).k", "new T.k + a", "if(x, nil, if(a < b, r, nil)).n.k", "a * b + a / (b + 3) - -a % 7", "if(if(x, nil, r) == r, a, b)",
	} {
		faults += number("proc f#(a int, b int) int { c = a; c = c + 1; return "+e+"; }\n", i)
		for _, args := range [][2]int{{7, 3}, {-7, 3}, {0, 0}, {5, 0}, {api.MaxInt, -api.MaxInt}, {api.MaxInt, api.MaxInt}, {1 << 20, 1 << 20}, {1<<20 + 1, 1 << 20}, {-3, -3}} {
			calls = append(calls, call("f"+strconv.Itoa(i), args[0], args[1]), call("flip"))
		}
	}
	calls = append(calls, call("deep", 200), call("deep", 201), call("loop"), call("spin", 3), call("many"), call("order", 1), call("nothing"), call("early", 1), call("early", 0), call("ignore"), call("wrong"), call("nested", 5))
	return []program{
		{parse(t, trees1), trees},
		{parse(t, "desc d { type T { k int; n T } var r T var c int var x bool "+faults+`
proc flip() { x = not x; if x { r = new T; r.n = new T; r.n.k = c; } else { r = r.n; } }
proc deep(n int) int { return if(n < 2, 0, 1 + deep(n - 1)); }
proc loop() { while true { c = c + 1; } }
proc spin(n int) int { while 0 < n { n = n - 1; while n < c { n = n + 1; c = c - 2; } } return c; }
proc many() int { local t T; while true { t = new T; t.n = r; r = t; } return 1; }
proc order(n int) int { c = n; return add(step(1), add(step(2), step(3))) - c; }
proc step(n int) int { c = c * 10 + n; return c; }
proc add(a int, b int) int { c = c * 10; return a + b; }
proc nothing() { }
proc early(b bool) T { if b { return r; } c = 5; return nil; }
proc ignore() { step(1); early(true); nothing(); return; }
proc wrong() { local t T; t.k = step(1) / 0; }
proc nested(n int) int { local i int; local s int; while i < n { if i % 2 == 0 { s = s + i; } else { if s < i { s = s * 2; } else { return s; } } i = i + 1; } return s; }
}`), calls},
	}
}

type program struct {
	d     api.Desc
	calls []api.Call
}

const trees1 = `desc tree {
type N { k int; v int; l N; r N }
var t N
var c int
proc put(k int) int {
	local n int;
	n = c;
	t = insert(t, k);
	return c - n;
}
proc insert(x N, k int) N {
	if x == nil {
		x = new N;
		x.k = k;
		c = c + 1;
		return x;
	}
	if k < x.k {
		x.l = insert(x.l, k);
	} else {
		if x.k < k {
			x.r = insert(x.r, k);
		}
	}
	x.v = x.v + 1;
	return x;
}
proc get(k int) int {
	local q N;
	q = t;
	while q.k != k {
		q = if(k < q.k, q.l, q.r);
	}
	return q.v;
}
proc join(a N, b N) N {
	if a == nil { return b; }
	a.r = join(a.r, b);
	return a;
}
proc cut(x N, k int) N {
	if x == nil { return nil; }
	if x.k == k { return join(x.l, x.r); }
	if k < x.k { x.l = cut(x.l, k); } else { x.r = cut(x.r, k); }
	return x;
}
proc remove(k int) { t = cut(t, k); }
proc depth(x N) int { return if(x == nil, 0, 1 + max(depth(x.l), depth(x.r))); }
proc height() int { return depth(t); }
}
`

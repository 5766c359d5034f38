package eval_test

import (
	"slices"
	"testing"

	"heartwood/api"
	"heartwood/parser"
)

func parse(t *testing.T, s string) api.Desc {
	t.Helper()
	d, place, err := parser.Parse(s)
	if err != api.OK {
		t.Fatal(s, place, err)
	}
	return d
}

// program returns a description with a type, global variables, and some procedures.
func program(t *testing.T, procs string) api.Desc {
	return parse(t, "desc d { type T { k int; n T; on bool } type U { t T } var r T var c int var b bool var u U "+procs+" }")
}

// body returns a description with one procedure p.
func body(t *testing.T, s string) api.Desc {
	return program(t, "proc p(i int, j int, q T, x bool) int { "+s+" }")
}

func node(typ int, f ...int) api.Node { return api.Node{Type: typ, F: f} }

func mem(globals []int, nodes ...api.Node) api.Mem { return api.Mem{Globals: globals, Nodes: nodes} }

// start is a memory of program: two nodes of T that are linked, and one of U.
func start() api.Mem {
	return mem([]int{1, 10, 1, 3}, node(0, 5, 2, 1), node(0, 6, 0, 0), node(1, 2))
}

func empty() api.Mem { return mem([]int{0, 0, 0, 0}) }

func call(proc string, args ...int) api.Call { return api.Call{Proc: proc, Args: args} }

func same(a, b api.Mem) bool {
	return slices.Equal(a.Globals, b.Globals) && slices.EqualFunc(a.Nodes, b.Nodes, func(x, y api.Node) bool { return x.Type == y.Type && slices.Equal(x.F, y.F) })
}

func isZero(m api.Mem) bool { return len(m.Globals) == 0 && len(m.Nodes) == 0 }

func outcome(fault api.Errno, value, compares, nodes int) api.Outcome {
	return api.Outcome{Fault: fault, Value: value, Cost: api.Cost{Compares: compares, Nodes: nodes}}
}

func read(node, field int) api.Access  { return api.Access{Kind: api.Read, Node: node, Field: field} }
func write(node, field int) api.Access { return api.Access{Kind: api.Write, Node: node, Field: field} }
func alloc(node, typ int) api.Access   { return api.Access{Kind: api.Alloc, Node: node, Field: typ} }

// structures has calls that do much, for the laws: a search tree, a list, and recursion.
const structures = `desc d {
type N { k int; l N; r N }
var t N
var c int
var hot bool
proc put(k int) int {
	local p N;
	local q N;
	q = t;
	while q != nil {
		if q.k == k {
			return 1;
		}
		p = q;
		q = if(k < q.k, q.l, q.r);
	}
	q = new N;
	q.k = k;
	if p == nil {
		t = q;
	} else {
		if k < p.k {
			p.l = q;
		} else {
			p.r = q;
		}
	}
	c = c + 1;
	hot = not hot or c % 3 == 0;
	return 0;
}
proc get(k int) int {
	local q N;
	q = t;
	while q.k != k {
		q = if(k < q.k, q.l, q.r);
	}
	return q.k * 1000;
}
proc depth(x N) int {
	return if(x == nil, 0, 1 + max(depth(x.l), depth(x.r)));
}
proc height() int {
	return depth(t);
}
proc share() {
	put(c * 7 % 11);
	t.l = t.r;
}
proc grow(n int) int {
	while 0 < n {
		put(n * 37 % 101);
		n = n - 1;
	}
	return 100 / (c - 5);
}
}
`

// scripts are calls for structures: some of them fault.
func scripts() [][]api.Call {
	return [][]api.Call{
		{call("put", 5), call("put", 3), call("put", 8), call("get", 8), call("get", 4), call("put", 8), call("height")},
		{call("grow", 5), call("grow", 1), call("height"), call("share"), call("height"), call("get", 1)},
		{call("share"), call("share"), call("grow", 20), call("height"), call("put", api.MaxInt), call("get", api.MaxInt)},
	}
}

package external_test

import (
	"slices"
	"testing"

	"heartwood/api"
	"heartwood/cache"
	"heartwood/eval"
	"heartwood/external"
	"heartwood/heap"
	"heartwood/library"
	"heartwood/parser"
)

// numbers yields numbers by a fixed rule.
type numbers int

func (n *numbers) below(limit int) int {
	*n = *n * 48271 % 2147483647
	return int(*n) % limit
}

func parse(t *testing.T, s string) api.Desc {
	t.Helper()
	d, place, err := parser.Parse(s)
	if err != api.OK {
		t.Fatal(s, place, err)
	}
	return d
}

const graphText = `desc graph {
type N { val int; a N; e E; b N }
type E { flag bool; to N; n int }
var r N
var c int
var s E
var t N
proc push(n int) { local x N; x = new N; x.val = n; x.a = r; x.b = t; r = x; c = c + 1; }
proc edge(f bool) { local x E; x = new E; x.flag = f; x.to = r; s = x; if r != nil { r.e = x; t = r.a; } }
proc sum(n int) int { local x N; local k int; x = r; while x != nil and 0 < n { k = k + x.val; n = n - 1; x = if(n % 2 == 0, x.a, x.b); } return k; }
proc walk() { local x N; x = r; while x != nil { x = x.a; } }
proc bad() int { r.val = 5; s = new E; return 1 / 0; }
proc none() { c = c + 1; }
proc at(x N) int { return x.val; }
proc many() { local x N; while true { x = new N; x.a = r; r = x; } }
proc long() { while true { r.val = r.val; } }
}`

func call(proc string, args ...int) api.Call { return api.Call{Proc: proc, Args: args} }

func sameMem(a, b api.Mem) bool {
	return slices.Equal(a.Globals, b.Globals) && slices.EqualFunc(a.Nodes, b.Nodes, func(x, y api.Node) bool { return x.Type == y.Type && slices.Equal(x.F, y.F) })
}

// graph returns a random memory of the graph.
func (n *numbers) graph(nodes int) api.Mem {
	m := api.Mem{}
	for range nodes {
		m.Nodes = append(m.Nodes, api.Node{Type: n.below(4) / 3, F: nil})
	}
	ref := func(typ int) int {
		k := n.below(nodes + 1)
		if k == 0 || m.Nodes[k-1].Type != typ {
			return 0
		}
		return k
	}
	for i, x := range m.Nodes {
		m.Nodes[i].F = []int{n.below(9), ref(0), ref(1), ref(0)}
		if x.Type == 1 {
			m.Nodes[i].F = []int{n.below(2), ref(0), n.below(9)}
		}
	}
	m.Globals = []int{ref(0), n.below(9), ref(1), ref(0)}
	return m
}

// parts returns the references of values, for the types of their fields.
func parts(values []int, fields []api.Field) []int {
	var l []int
	for i, f := range fields {
		if f.Type != "int" && f.Type != "bool" && values[i] != 0 {
			l = append(l, values[i])
		}
	}
	return l
}

func partsOf(d api.Desc, m api.Mem, node int) []int {
	x := m.Nodes[node-1]
	return parts(x.F, d.Types[x.Type].Fields)
}

// orders returns the nodes in the orders of the kinds 1 to 3, by their definitions.
func orders(d api.Desc, m api.Mem) [4][]int {
	var all [4][]int
	var enter func(n int)
	enter = func(n int) {
		if !slices.Contains(all[2], n) {
			all[2] = append(all[2], n)
			for _, x := range partsOf(d, m, n) {
				enter(x)
			}
		}
	}
	for _, n := range parts(m.Globals, d.Globals) {
		enter(n)
	}
	queue := parts(m.Globals, d.Globals)
	for len(queue) > 0 {
		n := queue[0]
		queue = queue[1:]
		if !slices.Contains(all[3], n) {
			all[3] = append(all[3], n)
			queue = append(queue, partsOf(d, m, n)...)
		}
	}
	for n := 1; n <= len(m.Nodes); n++ {
		for k := 1; k <= 3; k++ {
			if !slices.Contains(all[k], n) {
				all[k] = append(all[k], n)
			}
		}
	}
	return all
}

// clusters finds the placement of the kind 4 by its definition.
func clusters(d api.Desc, m api.Mem, order []int, size int) []int {
	place := slices.Repeat([]int{-1}, len(m.Nodes))
	for block := 0; slices.Contains(place, -1); block++ {
		queue := []int{order[slices.IndexFunc(order, func(n int) bool { return place[n-1] < 0 })]}
		for count := 0; count < size && len(queue) > 0; queue = queue[1:] {
			if n := queue[0]; place[n-1] < 0 {
				place[n-1] = block
				count++
				queue = append(queue, partsOf(d, m, n)...)
			}
		}
	}
	return place
}

// P42.1
func TestPlacements(t *testing.T) {
	d := parse(t, graphText)
	for seed := 1; seed <= 60; seed++ {
		n := numbers(seed)
		m := n.graph(n.below(30))
		all := orders(d, m)
		for _, size := range []int{1, 2, 3, 5, 64} {
			for kind := 1; kind <= 3; kind++ {
				want := make([]int, len(m.Nodes))
				for i, x := range all[kind] {
					want[x-1] = i / size
				}
				if got, err := external.Place(d, m, kind, size); !slices.Equal(got, want) || err != api.OK {
					t.Fatal(m, kind, size, got, err, want)
				}
			}
			want := clusters(d, m, all[2], size)
			if got, err := external.Place(d, m, 4, size); !slices.Equal(got, want) || err != api.OK {
				t.Fatal(m, size, got, err, want)
			}
		}
	}
	m, _ := heap.New(d)
	for kind := -1; kind <= 6; kind++ {
		for _, size := range []int{-1, 0, 1, api.MaxArgs, api.MaxArgs + 1} {
			want := api.OK
			if kind < 1 || kind > 4 || size < 1 || size > api.MaxArgs {
				want = api.ErrRange
			}
			if got, err := external.Place(d, m, kind, size); len(got) != 0 || err != want {
				t.Error(kind, size, got, err)
			}
			if got, err := external.Place(d, api.Mem{}, kind, size); got != nil || err != api.ErrArg {
				t.Error(kind, size, got, err)
			}
			if got, err := external.Place(api.Desc{}, m, kind, size); got != nil || err != api.ErrArg {
				t.Error(kind, size, got, err)
			}
		}
	}
}

// A description with types whose procedures have errors has placements, but no runs.
func TestErroneousDescriptions(t *testing.T) {
	d := parse(t, graphText)
	d.Procs[0].Body[0].S = "unknown"
	m := (&[]numbers{3}[0]).graph(8)
	if l, err := external.Place(d, m, 2, 3); len(l) != 8 || err != api.OK {
		t.Error(l, err)
	}
	if _, _, _, err := external.Run(d, m, make([]int, 8), 8, 1, call("none"), 5); err != api.ErrArg {
		t.Error(err)
	}
	if _, err := external.Trace(d, m, make([]int, 8), 8, call("none"), 5); err != api.ErrArg {
		t.Error(err)
	}
	if _, _, err := external.Script(d, nil, 9, 8, 1, 5); err != api.ErrArg {
		t.Error(err)
	}
}

func TestFill(t *testing.T) {
	full := make([]int, api.MaxNodes)
	for i := range full {
		full[i] = i / 64
	}
	for i, c := range []struct {
		place []int
		size  int
		want  int // the block of the further node, or less than 0
		err   api.Errno
	}{
		{nil, 1, 0, api.OK}, {[]int{0}, 1, 1, api.OK}, {[]int{0}, 2, 0, api.OK}, {[]int{5, 0, 5}, 3, 5, api.OK}, {[]int{5, 0, 5}, 2, 6, api.OK}, {[]int{0, 0, 1}, 2, 1, api.OK},
		{[]int{api.MaxNodes - 1}, 2, api.MaxNodes - 1, api.OK}, {[]int{api.MaxNodes - 1}, 1, -1, api.ErrMemory}, {full, 64, -1, api.ErrMemory}, {full[1:], 64, 64, api.OK}, {full[:api.MaxNodes-1], 64, 63, api.OK},
		{nil, 0, -1, api.ErrRange}, {nil, -1, -1, api.ErrRange}, {[]int{-1}, 65, -1, api.ErrRange}, {nil, 64, 0, api.OK},
		{[]int{-1}, 2, -1, api.ErrShape}, {[]int{api.MaxNodes}, 2, -1, api.ErrShape}, {[]int{0, 1, 0, 0}, 2, -1, api.ErrShape}, {full, 63, -1, api.ErrShape}, {append(slices.Clone(full), 64), 64, -1, api.ErrShape},
	} {
		before := slices.Clone(c.place)
		got, err := external.Fill(c.place, c.size)
		if err != c.err || err != api.OK && got != nil || err == api.OK && !slices.Equal(got, append(before, c.want)) {
			t.Error(i, len(got), err, c.err)
		}
	}
}

// traced returns the blocks that accesses reference, and the placement after them.
func traced(accesses []api.Access, place []int, size int) ([]int, []int) {
	place = slices.Clone(place)
	var trace []int
	for _, a := range accesses {
		if a.Kind == api.Alloc {
			place, _ = external.Fill(place, size)
		}
		if a.Node != 0 {
			trace = append(trace, place[a.Node-1])
		}
	}
	return trace, place
}

// checkRun compares a run with the interpreter, and with the misses of its trace.
func checkRun(t *testing.T, d api.Desc, m api.Mem, place []int, size, capacity int, c api.Call, fuel int) {
	t.Helper()
	want, after, _ := eval.Run(d, m, c, fuel)
	accesses, _ := eval.Trace(d, m, c, fuel)
	blocks, filled := traced(accesses, place, size)
	want.Cost.Blocks, _ = cache.LRU(blocks, capacity)
	o, mem, got, err := external.Run(d, m, place, size, capacity, c, fuel)
	if o != want || !sameMem(mem, after) || !slices.Equal(got, filled) || err != api.OK {
		t.Fatal(c, o, want, got, filled, err)
	}
	if trace, err := external.Trace(d, m, place, size, c, fuel); !slices.Equal(trace, blocks) || err != api.OK {
		t.Fatal(c, trace, blocks, err)
	}
}

// P42.2, P42.3, and P42.5
func TestRuns(t *testing.T) {
	d := parse(t, graphText)
	for seed := 1; seed <= 40; seed++ {
		n := numbers(seed)
		m := n.graph(n.below(25))
		calls := []api.Call{call("push", 5), call("edge", 1), call("sum", 30), call("bad"), call("none"), call("at", 0), call("many"), call("long")}
		if r := m.Globals[0]; r != 0 {
			calls = append(calls, call("at", r))
		}
		for _, size := range []int{1, 2, 4} {
			place, _ := external.Place(d, m, 1+n.below(4), size)
			if n.below(2) == 0 {
				for i := range place {
					place[i] = (place[i]*7 + 3) % 100
				}
			}
			for _, c := range calls {
				last := 1 << 60
				for capacity := 1; capacity < 6; capacity++ {
					checkRun(t, d, m, place, size, capacity, c, 60)
					o, _, _, _ := external.Run(d, m, place, size, capacity, c, 60)
					if o.Cost.Blocks > last {
						t.Fatal("more transfers with a greater capacity")
					}
					last = o.Cost.Blocks
				}
			}
		}
		checkSingle(t, d, m, calls)
	}
}

// checkSingle checks that with blocks of one node all nodes that are accessed are transferred once.
func checkSingle(t *testing.T, d api.Desc, m api.Mem, calls []api.Call) {
	t.Helper()
	place, _ := external.Place(d, m, 1, 1)
	for _, c := range calls {
		accesses, _ := eval.Trace(d, m, c, 60)
		nodes := map[int]bool{}
		for _, a := range accesses {
			if a.Node != 0 {
				nodes[a.Node] = true
			}
		}
		if o, _, _, err := external.Run(d, m, place, 1, api.MaxList, c, 60); o.Cost.Blocks != len(nodes) || err != api.OK {
			t.Fatal(c, o, len(nodes), err)
		}
	}
}

func TestExample(t *testing.T) {
	d := parse(t, graphText)
	m, _ := heap.New(d)
	for range 4 {
		_, m, _ = eval.Run(d, m, call("push", 1), 100)
	}
	for kind, want := range [][]int{nil, {0, 0, 1, 1}, {1, 1, 0, 0}, {1, 1, 0, 0}, {1, 1, 0, 0}} {
		if want == nil {
			continue
		}
		place, err := external.Place(d, m, kind, 2)
		if !slices.Equal(place, want) || err != api.OK {
			t.Error(kind, place, err)
		}
		if o, _, _, err := external.Run(d, m, place, 2, 1, call("walk"), 100); o.Cost.Blocks != 2 || err != api.OK {
			t.Error(kind, o, err)
		}
	}
}

func TestRunErrors(t *testing.T) {
	d := parse(t, graphText)
	m := (&[]numbers{3}[0]).graph(5)
	place := []int{0, 0, 1, 1, 2}
	for i, x := range []struct {
		d                    api.Desc
		m                    api.Mem
		place                []int
		size, capacity, fuel int
		c                    api.Call
		want                 api.Errno
	}{
		{api.Desc{}, m, place, 0, 0, -1, call("?"), api.ErrArg}, {d, api.Mem{}, nil, 0, 0, -1, call("?"), api.ErrArg},
		{d, m, nil, 0, 1, 1, call("?"), api.ErrRange}, {d, m, nil, 65, 1, 1, call("?"), api.ErrRange}, {d, m, nil, 2, 1, -1, call("?"), api.ErrRange}, {d, m, nil, 2, 1, api.MaxFuel + 1, call("?"), api.ErrRange},
		{d, m, nil, 2, 1, 1, call("?"), api.ErrShape}, {d, m, place[1:], 2, 1, 1, call("?"), api.ErrShape}, {d, m, append(place, 3), 2, 1, 1, call("?"), api.ErrShape}, {d, m, place, 1, 1, 1, call("?"), api.ErrShape},
		{d, m, []int{0, 1, 2, 3, -1}, 2, 1, 1, call("?"), api.ErrShape}, {d, m, []int{0, 1, 2, 3, api.MaxNodes}, 2, 1, 1, call("?"), api.ErrShape},
		{d, m, place, 2, 1, 1, call("?"), api.ErrName}, {d, m, place, 2, 1, 1, call("push"), api.ErrSize}, {d, m, place, 2, 1, 1, call("edge", 2), api.ErrType}, {d, m, place, 2, 1, 1, call("at", 6), api.ErrType},
	} {
		o, after, l, err := external.Run(x.d, x.m, x.place, x.size, x.capacity, x.c, x.fuel)
		if o != (api.Outcome{}) || after.Globals != nil || after.Nodes != nil || l != nil || err != x.want {
			t.Error(i, o, after, l, err, x.want)
		}
		if x.capacity == 0 {
			x.capacity = 1
		}
		if l, err := external.Trace(x.d, x.m, x.place, x.size, x.c, x.fuel); l != nil || err != x.want {
			t.Error(i, l, err, x.want)
		}
	}
	for _, capacity := range []int{0, -1, api.MaxList + 1} {
		if _, _, _, err := external.Run(d, m, nil, 2, capacity, call("?"), 5); err != api.ErrRange {
			t.Error(capacity, err)
		}
		if _, _, err := external.Script(d, make([]api.Call, api.MaxOps+1), 0, 2, capacity, 5); err != api.ErrRange {
			t.Error(capacity, err)
		}
	}
	m, _ = heap.New(d)
	_, m, _ = eval.Run(d, m, call("push", 1), 100)
	for _, fuel := range []int{0, 1, api.MaxFuel} {
		checkRun(t, d, m, []int{7}, api.MaxArgs, api.MaxList, call("push", 1), fuel)
		checkScript(t, d, []api.Call{call("push", 1), call("walk")}, 4, api.MaxArgs, api.MaxList, fuel)
	}
	// Each round of long has two ticks less one, and two accesses.
	if l, err := external.Trace(d, m, []int{7}, 1, call("long"), api.MaxSteps); len(l) != api.MaxSteps || err != api.OK {
		t.Error(len(l), err)
	}
	if l, err := external.Trace(d, m, []int{7}, 1, call("long"), api.MaxSteps+2); l != nil || err != api.ErrFull {
		t.Error(len(l), err)
	}
	checkRun(t, d, m, []int{7}, 1, 1, call("long"), 1000)
	place, _ = external.Place(d, m, 1, 2)
	if o, after, l, err := external.Run(d, m, place, 2, 3, call("many"), api.MaxFuel); o.Fault != api.ErrMemory || len(after.Nodes) != api.MaxNodes || len(l) != api.MaxNodes || l[api.MaxNodes-1] != api.MaxNodes/2-1 || err != api.OK {
		t.Error(o, err)
	}
}

// P42.4
func TestScripts(t *testing.T) {
	for _, name := range library.Names() {
		d, _ := library.Load(name)
		n := numbers(len(name))
		var calls []api.Call
		for range 60 {
			for size := range 3 {
				o := api.Op{Code: 1 + n.below(4)}
				for range size {
					o.Args = append(o.Args, n.below(20))
				}
				if c, err := library.Bind(name, o); err == api.OK {
					calls = append(calls, c)
				}
			}
		}
		for kind := 0; kind <= 4; kind++ {
			checkScript(t, d, calls, kind, 1+kind, 2+kind, 100000)
		}
		checkScript(t, d, calls, 0, 3, 1, 12)
		checkScript(t, d, nil, 2, 3, 1, 12)
	}
}

// checkScript compares a script with the calls one after the other.
func checkScript(t *testing.T, d api.Desc, calls []api.Call, kind, size, capacity, fuel int) {
	t.Helper()
	m, _ := heap.New(d)
	var want []api.Outcome
	var place []int
	blocks, _ := cache.New(capacity)
	for _, c := range calls {
		if kind > 0 {
			place, _ = external.Place(d, m, kind, size)
			blocks, _ = cache.New(capacity)
		}
		o, after, _ := eval.Run(d, m, c, fuel)
		accesses, _ := eval.Trace(d, m, c, fuel)
		var trace []int
		trace, place = traced(accesses, place, size)
		before := blocks.Misses()
		for _, b := range trace {
			blocks.Touch(b)
		}
		o.Cost.Blocks = blocks.Misses() - before
		want, m = append(want, o), after
	}
	got, after, err := external.Script(d, calls, kind, size, capacity, fuel)
	if !slices.Equal(got, want) || !sameMem(after, m) || err != api.OK {
		t.Fatal(d.Name, kind, got, want, err)
	}
}

func TestScriptErrors(t *testing.T) {
	d := parse(t, graphText)
	many := slices.Repeat([]api.Call{call("none")}, api.MaxOps)
	for i, x := range []struct {
		l                []api.Call
		kind, size, fuel int
		want             api.Errno
	}{
		{many, -1, 2, 5, api.ErrRange}, {many, 5, 2, 5, api.ErrRange}, {many, 0, 0, 5, api.ErrRange}, {many, 0, 65, 5, api.ErrRange}, {many, 0, 2, -1, api.ErrRange}, {many, 0, 2, api.MaxFuel + 1, api.ErrRange},
		{append(many, call("?")), 0, 2, 5, api.ErrFull}, {[]api.Call{call("none"), call("?"), call("push")}, 0, 2, 5, api.ErrName}, {[]api.Call{call("none"), call("push")}, 0, 2, 5, api.ErrSize},
		{[]api.Call{call("push", 1), call("at", 2)}, 2, 2, 50, api.ErrType}, {[]api.Call{call("push", 1), call("at", 1)}, 2, 2, 50, api.OK},
	} {
		l, m, err := external.Script(d, x.l, x.kind, x.size, 3, x.fuel)
		if err != x.want || err != api.OK && (l != nil || m.Globals != nil) {
			t.Error(i, l, m, err, x.want)
		}
	}
	if l, _, err := external.Script(d, many, 0, 2, 3, 5); len(l) != api.MaxOps || err != api.OK {
		t.Error(len(l), err)
	}
}

func TestSharing(t *testing.T) {
	d := parse(t, graphText)
	m := (&[]numbers{5}[0]).graph(6)
	other := (&[]numbers{5}[0]).graph(6)
	place, _ := external.Place(d, m, 1, 2)
	_, after, l, _ := external.Run(d, m, place, 2, 3, call("none"), 5)
	clear(after.Globals)
	for _, n := range after.Nodes {
		clear(n.F)
	}
	clear(l)
	x, _ := external.Fill(place, 2)
	clear(x)
	if !sameMem(m, other) || !slices.Equal(place, []int{0, 0, 1, 1, 2, 2}) {
		t.Error(m, place)
	}
}

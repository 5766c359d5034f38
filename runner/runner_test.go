package runner_test

import (
	"slices"
	"strconv"
	"strings"
	"testing"

	"heartwood/api"
	"heartwood/eval"
	"heartwood/heap"
	"heartwood/library"
	"heartwood/model"
	"heartwood/runner"
)

func op(t *testing.T, name, s string) api.Op {
	t.Helper()
	kind, _ := library.Kind(name)
	o, err := model.Parse(kind, s)
	if err != api.OK {
		t.Fatal(name, s, err)
	}
	return o
}

func ops(t *testing.T, name string, l ...string) []api.Op {
	t.Helper()
	var r []api.Op
	for _, s := range l {
		r = append(r, op(t, name, s))
	}
	return r
}

func made(t *testing.T, name string, l ...string) api.Instance {
	t.Helper()
	i, err := runner.New(name)
	if err != api.OK {
		t.Fatal(name, err)
	}
	i, _, _, err = runner.Script(i, ops(t, name, l...))
	if err != api.OK || !runner.Valid(i) {
		t.Fatal(name, l, err)
	}
	return i
}

func node(f ...int) api.Node { return api.Node{F: f} }

func sameMem(a, b api.Mem) bool {
	return slices.Equal(a.Globals, b.Globals) && slices.EqualFunc(a.Nodes, b.Nodes, func(x, y api.Node) bool { return x.Type == y.Type && slices.Equal(x.F, y.F) })
}

func clone(i api.Instance) api.Instance {
	r := api.Instance{Name: i.Name, Mem: api.Mem{Globals: slices.Clone(i.Mem.Globals)}}
	for _, n := range i.Mem.Nodes {
		r.Mem.Nodes = append(r.Mem.Nodes, api.Node{Type: n.Type, F: slices.Clone(n.F)})
	}
	return r
}

func same(a, b api.Instance) bool { return a.Name == b.Name && sameMem(a.Mem, b.Mem) }

func isZero(i api.Instance) bool {
	return i.Name == "" && len(i.Mem.Globals) == 0 && len(i.Mem.Nodes) == 0
}

func spoil(i api.Instance) {
	for k := range i.Mem.Globals {
		i.Mem.Globals[k] = 99
	}
	for k := range i.Mem.Nodes {
		for f := range i.Mem.Nodes[k].F {
			i.Mem.Nodes[k].F[f] = 99
		}
	}
}

// invalid has instances that are not valid, each for one reason.
func invalid(t *testing.T) []api.Instance {
	t.Helper()
	change := func(name string, f func(m *api.Mem)) api.Instance {
		i := made(t, name, map[string][]string{"list": {"put 3 30", "put 1 10", "put 5 50"}, "gap": {"insert 0 1", "insert 0 2", "get 1"}}[name]...)
		f(&i.Mem)
		return i
	}
	return []api.Instance{
		{}, {Name: "tree"}, {Name: "list"}, change("list", func(m *api.Mem) { m.Globals = m.Globals[:1] }), change("list", func(m *api.Mem) { m.Nodes[0].Type = 1 }), change("list", func(m *api.Mem) { m.Nodes[2].F[2] = 4 }),
		change("list", func(m *api.Mem) { m.Nodes[0].F[0] = 4 }), change("list", func(m *api.Mem) { m.Globals[1] = 2 }), change("list", func(m *api.Mem) { m.Nodes[2].F[2] = 1 }), change("list", func(m *api.Mem) { m.Nodes = append(m.Nodes, node(9, 9, 0)) }),
		change("list", func(m *api.Mem) {
			m.Nodes[0], m.Nodes[1] = m.Nodes[1], m.Nodes[0]
			m.Globals[0], m.Nodes[1].F[2], m.Nodes[0].F[2] = 2, 1, 3
		}), change("gap", func(m *api.Mem) { m.Globals[2]++ }),
		change("list", func(m *api.Mem) { m.Nodes[0].F[1] = api.MaxInt + 1 }), {Name: "bst", Mem: made(t, "list", "put 3 30").Mem},
	}
}

// P20.1

func TestNew(t *testing.T) {
	for _, name := range library.Names() {
		i, err := runner.New(name)
		d, _ := library.Load(name)
		m, _ := heap.New(d)
		if err != api.OK || i.Name != name || !sameMem(i.Mem, m) || !runner.Valid(i) {
			t.Error(name, i, err)
		}
	}
	for _, name := range []string{"", "tree", "List"} {
		if i, err := runner.New(name); err != api.ErrName || !isZero(i) {
			t.Error(i, err)
		}
	}
}

func TestInvalid(t *testing.T) {
	for k, i := range invalid(t) {
		if runner.Valid(i) {
			t.Error(k, i)
		}
		if r, res, cost, err := runner.Do(i, api.Op{}); err != api.ErrArg || !isZero(r) || res.Err != 0 || res.N != 0 || cost != (api.Cost{}) {
			t.Error(k, r, res, cost, err)
		}
		for _, l := range [][]api.Op{nil, make([]api.Op, 1), make([]api.Op, api.MaxOps+1)} {
			if r, res, cost, err := runner.Script(i, l); err != api.ErrArg || !isZero(r) || len(res) != 0 || len(cost) != 0 {
				t.Error(k, r, res, cost, err)
			}
		}
		if s, err := runner.State(i); err != api.ErrArg || s.Kind != 0 || len(s.Rows) != 0 {
			t.Error(k, s, err)
		}
	}
}

// P20.2

func TestDo(t *testing.T) {
	i, _ := runner.New("list")
	d, _ := library.Load("list")
	for _, c := range []struct {
		s   string
		err api.Errno
		n   int
	}{{"put 3 30", 0, 0}, {"put 1 10", 0, 0}, {"get 3", 0, 30}, {"get 2", api.ErrNone, 0}, {"put 3 31", 0, 1}, {"select 1", 0, 3}, {"select 2", api.ErrRange, 0}, {"remove 1", 0, 10}, {"size", 0, 1}, {"floor 0", api.ErrNone, 0}} {
		before := clone(i)
		o := op(t, "list", c.s)
		call, _ := library.Bind("list", o)
		x, m, _ := eval.Run(d, i.Mem, call, 100000)
		m, _ = heap.Canonical(d, m)
		next, res, cost, err := runner.Do(i, o)
		if err != api.OK || res.Err != c.err || res.N != c.n || len(res.L) != 0 || cost != x.Cost || next.Name != "list" || !sameMem(next.Mem, m) || !runner.Valid(next) {
			t.Error(c, next, res, cost, err)
		}
		keep := clone(next)
		spoil(next)
		if !same(i, before) {
			t.Error("the argument has changed")
		}
		i = keep
	}
	if len(i.Mem.Nodes) != 1 {
		t.Error("not canonical", i)
	}
	for _, o := range []api.Op{{}, {Code: 9}, {Code: api.DictGet}, {Code: api.DictGet, Args: []int{api.MaxKey + 1}}} {
		if r, res, cost, err := runner.Do(i, o); err != api.ErrArg || !isZero(r) || res.N != 0 || cost != (api.Cost{}) {
			t.Error(r, res, cost, err)
		}
		if r, res, _, err := runner.Script(i, []api.Op{op(t, "list", "size"), o}); err != api.ErrArg || !isZero(r) || len(res) != 0 {
			t.Error(r, res, err)
		}
	}
	gap, _ := runner.New("gap")
	if r, _, _, err := runner.Do(gap, op(t, "gap", "reverse 0 0")); err != api.ErrNone || !isZero(r) {
		t.Error(r, err)
	}
	if r, res, cost, err := runner.Script(gap, ops(t, "gap", "insert 0 1", "reverse 0 0", "size")); err != api.ErrNone || !isZero(r) || len(res) != 0 || len(cost) != 0 {
		t.Error(r, err)
	}
	if _, _, _, err := runner.Script(gap, append(ops(t, "gap", "reverse 0 0"), api.Op{})); err != api.ErrNone {
		t.Error(err)
	}
}

func TestFaults(t *testing.T) {
	// A splay tree that is so deep that a call faults, after it has changed the memory.
	deep := api.Instance{Name: "splay", Mem: api.Mem{Globals: []int{1, 450}}}
	for k := range 450 {
		deep.Mem.Nodes = append(deep.Mem.Nodes, node(-k, k, (k+2)%451, 0))
	}
	if !runner.Valid(deep) {
		t.Fatal("not valid")
	}
	before := clone(deep)
	i, res, cost, err := runner.Do(deep, op(t, "splay", "get -449"))
	if err != api.OK || res.Err != api.ErrDepth || res.N != 0 || cost.Nodes < 400 || !same(i, before) || !same(deep, before) {
		t.Error(res, cost, err)
	}
	spoil(i)
	if !same(deep, before) {
		t.Error("the result shares memory with the argument")
	}
	if i, res, _, err := runner.Script(deep, ops(t, "splay", "get -449", "size", "get -1")); err != api.OK || res[0].Err != api.ErrDepth || res[1].N != 450 || res[2].N != 1 || same(i, before) {
		t.Error(res, err)
	}
	// A rope that is so deep that an insertion faults, after it has changed a global variable.
	rope := api.Instance{Name: "rope", Mem: api.Mem{Globals: []int{1, 0, 0, 7}}}
	for k := range 300 {
		rope.Mem.Nodes = append(rope.Mem.Nodes, node(0, 0, 300-k, 0, 0, (k+2)%301, 0))
	}
	if d, _ := library.Load("rope"); !runner.Valid(rope) {
		t.Fatal("not valid")
	} else if _, m, err := eval.Run(d, rope.Mem, api.Call{Proc: "insert", Args: []int{0, 5}}, 100000); err != api.OK || m.Globals[3] == 7 {
		t.Fatal("the call must change the memory", err)
	}
	if i, res, _, err := runner.Do(rope, op(t, "rope", "insert 0 5")); err != api.OK || res.Err != api.ErrDepth || !same(i, rope) {
		t.Error(res, err)
	}
	if i, res, _, err := runner.Script(rope, ops(t, "rope", "insert 0 5", "size")); err != api.OK || res[0].Err != api.ErrDepth || res[1].N != 300 || !same(i, rope) {
		t.Error(res, err)
	}
	full := api.Instance{Name: "list", Mem: api.Mem{Globals: []int{1, api.MaxNodes}}}
	for k := range api.MaxNodes {
		full.Mem.Nodes = append(full.Mem.Nodes, node(k, k, (k+2)%(api.MaxNodes+1)))
	}
	if i, res, _, err := runner.Do(full, op(t, "list", "put 5000 1")); err != api.OK || res.Err != api.ErrMemory || !same(i, full) {
		t.Error(res, err)
	}
	// The fuel is 100,000: a list of 4,096 elements is gone through with 2 ticks for each.
	if _, res, _, err := runner.Do(full, op(t, "list", "get 4095")); err != api.OK || res.N != 4095 {
		t.Error(res, err)
	}
	if s, err := runner.State(full); err != api.ErrBroken || len(s.Rows) != 0 {
		t.Error(len(s.Rows), err)
	}
}

func TestScriptLimits(t *testing.T) {
	i, _ := runner.New("list")
	many := slices.Repeat(ops(t, "list", "size"), api.MaxOps)
	if _, res, costs, err := runner.Script(i, many); err != api.OK || len(res) != api.MaxOps || len(costs) != api.MaxOps {
		t.Error(len(res), err)
	}
	if r, res, costs, err := runner.Script(i, append(many, api.Op{})); err != api.ErrFull || !isZero(r) || len(res) != 0 || len(costs) != 0 {
		t.Error(len(res), err)
	}
	before := clone(i)
	r, res, _, err := runner.Script(i, nil)
	if err != api.OK || !same(r, before) || len(res) != 0 {
		t.Error(r, res, err)
	}
	spoil(r)
	if !same(i, before) {
		t.Error("the result shares memory with the argument")
	}
}

// P20.3

func wantState(t *testing.T, i api.Instance, kind int, rows ...[]int) {
	t.Helper()
	before := clone(i)
	s, err := runner.State(i)
	if err != api.OK || s.Kind != kind || !slices.EqualFunc(s.Rows, rows, slices.Equal[[]int]) || !same(i, before) {
		t.Error(i.Name, s, err, rows)
	}
}

func wantBroken(t *testing.T, i api.Instance) {
	t.Helper()
	if !runner.Valid(i) {
		t.Fatal("not valid", i.Name)
	}
	if s, err := runner.State(i); err != api.ErrBroken || s.Kind != 0 || len(s.Rows) != 0 {
		t.Error(i.Name, len(s.Rows), err)
	}
}

func TestState(t *testing.T) {
	wantState(t, made(t, "list", "put 3 30", "put 1 10", "get 3"), api.Dict, []int{1, 10}, []int{3, 30})
	for _, name := range []string{"list", "bst", "splay", "treap", "weightbalanced"} {
		wantState(t, made(t, name), api.Dict)
		wantState(t, made(t, name, "put 5 1", "put -9 2", "put 7 3", "put 0 4", "remove 5", "put 7 9"), api.Dict, []int{-9, 2}, []int{0, 4}, []int{7, 9})
	}
	for _, name := range []string{"skewheap", "leftist", "pairing"} {
		wantState(t, made(t, name), api.Heap)
		wantState(t, made(t, name, "insert 5", "insert -2", "insert 5", "insert 0", "deletemin"), api.Heap, []int{0}, []int{5}, []int{5})
	}
	for _, name := range []string{"rope", "gap"} {
		wantState(t, made(t, name), api.Seq)
		wantState(t, made(t, name, "insert 0 5", "insert 1 5", "insert 1 7", "insert 0 -1", "get 2", "remove 1"), api.Seq, []int{-1}, []int{7}, []int{5})
	}
	wantState(t, made(t, "rope", "insert 0 1", "insert 1 2", "insert 2 3", "insert 3 4", "reverse 1 4"), api.Seq, []int{1}, []int{4}, []int{3}, []int{2})
	wantState(t, made(t, "unionfind"), api.Sets)
	wantState(t, made(t, "unionfind", "make", "make", "make", "make", "make", "union 3 1", "union 4 3", "union 2 0"), api.Sets, []int{0, 2}, []int{1, 3, 4})
	// Only what is reached from the first global variable is held.
	w := made(t, "weightbalanced", "put 1 10", "put 2 20")
	w.Mem.Globals[1] = 3
	w.Mem.Nodes = append(w.Mem.Nodes, node(7, 70, 1, 0, 0))
	if !runner.Valid(w) {
		t.Fatal("not valid")
	}
	wantState(t, w, api.Dict, []int{1, 10}, []int{2, 20})
}

func TestBrokenStates(t *testing.T) {
	i := made(t, "list", "put 3 30")
	i.Mem.Nodes[0].F[1] = api.MaxKey + 1
	wantBroken(t, i)
	i.Mem.Nodes[0].F[1], i.Mem.Nodes[0].F[0] = 0, -api.MaxKey-1
	wantBroken(t, i)
	i = made(t, "skewheap", "insert 3")
	i.Mem.Nodes[0].F[0] = api.MaxInt
	wantBroken(t, i)
	for _, name := range []string{"gap", "rope"} {
		i = made(t, name, "insert 0 3")
		i.Mem.Nodes[0].F[0] = api.MaxKey + 1
		if name == "rope" {
			i.Mem.Nodes[0].F[3] = api.MaxKey + 1
		}
		wantBroken(t, i)
	}
	chain := func(n int) api.Instance {
		i := api.Instance{Name: "gap", Mem: api.Mem{Globals: []int{0, 1, 0, n}}}
		sets := api.Mem{Globals: []int{1, n, n}}
		for k := range n {
			i.Mem.Nodes = append(i.Mem.Nodes, node(7, (k+2)%(n+1)))
			sets.Nodes = append(sets.Nodes, node(n-1-k, 1, 0, (k+2)%(n+1)))
		}
		if n > 500 {
			wantBroken(t, api.Instance{Name: "unionfind", Mem: sets})
		}
		return i
	}
	wantState(t, chain(500), api.Seq, slices.Repeat([][]int{{7}}, 500)...)
	wantBroken(t, chain(501))
	wantBroken(t, chain(api.MaxNodes))
	// A treap whose keys are too great for a state, though the structure does not mind.
	i = made(t, "bst", "put 1 1", "put 2 2")
	i.Mem.Nodes[1].F[0] = api.MaxKey + 5
	wantBroken(t, i)
}

// numbers yields numbers by a fixed rule.
type numbers int

func (n *numbers) below(limit int) int {
	*n = *n * 48271 % 2147483647
	return int(*n) % limit
}

// words are the texts of operations of each kind; a dot stands for a number, and a comma for a place or an element.
func words(kind int) []string {
	return map[int][]string{
		api.Dict: {"put . .", "put . .", "get .", "remove .", "floor .", "ceiling .", "rank .", "select ,", "size"},
		api.Heap: {"insert .", "insert .", "min", "deletemin", "size"},
		api.Seq:  {"insert , .", "insert , .", "remove ,", "get ,", "set , .", "sum , ,", "reverse , ,", "size"},
		api.Sets: {"make", "union , ,", "same , ,", "size ,", "count"},
	}[kind]
}

// script returns random operations for a structure, also such that it does not have.
func script(t *testing.T, n *numbers, name string, count int) []api.Op {
	t.Helper()
	kind, _ := library.Kind(name)
	var l []api.Op
	for range count {
		fields := strings.Fields(words(kind)[n.below(len(words(kind)))])
		for i, f := range fields {
			switch f {
			case ".":
				fields[i] = strconv.Itoa(n.below(40) - 10)
			case ",":
				fields[i] = strconv.Itoa(n.below(12) - 1)
			}
		}
		l = append(l, op(t, name, strings.Join(fields, " ")))
	}
	return l
}

// having returns the operations that a structure has.
func having(name string, l []api.Op) []api.Op {
	return slices.DeleteFunc(slices.Clone(l), func(o api.Op) bool {
		_, err := library.Bind(name, o)
		return err != api.OK
	})
}

// P20.5 and P20.4: results and states are those of the model; a script is its parts.
func TestScripts(t *testing.T) {
	for _, name := range library.Names() {
		n := numbers(len(name))
		for range 6 {
			all := script(t, &n, name, 80)
			if at, err := runner.Agree(name, all); at != -1 || err != api.OK {
				t.Fatal(name, at, err)
			}
			l := having(name, all)
			start, _ := runner.New(name)
			last, results, costs, err := runner.Script(start, l)
			if err != api.OK || len(results) != len(l) || len(costs) != len(l) {
				t.Fatal(name, err)
			}
			kind, _ := library.Kind(name)
			state, _ := model.New(kind)
			i := start
			for k, o := range l {
				next, res, cost, err := runner.Do(i, o)
				if err != api.OK || res.Err != results[k].Err || res.N != results[k].N || cost != costs[k] {
					t.Fatal(name, o, res, cost, err)
				}
				after, want, _ := model.Apply(state, o)
				if res.Err != want.Err || res.N != want.N {
					t.Fatal(name, o, res, want)
				}
				i, state = next, after
				if s, err := runner.State(i); k%9 == 0 && (err != api.OK || !model.Same(s, state)) {
					t.Fatal(name, o, s, state, err)
				}
			}
			if !same(i, last) || !runner.Valid(last) {
				t.Fatal(name, "another instance")
			}
			half, _, _, _ := runner.Script(start, l[:len(l)/2])
			rest, _, _, err := runner.Script(half, l[len(l)/2:])
			if err != api.OK || !same(rest, last) {
				t.Fatal(name, "parts")
			}
		}
	}
}

func TestStateOfMany(t *testing.T) {
	var makes, inserts []string
	for k := range 140 {
		makes = append(makes, "make")
		inserts = append(inserts, "insert "+strconv.Itoa(k/2)+" "+strconv.Itoa(k))
	}
	if s, err := runner.State(made(t, "unionfind", makes...)); err != api.OK || len(s.Rows) != 140 {
		t.Error(len(s.Rows), err)
	}
	for _, name := range []string{"rope", "gap"} {
		state, _ := model.New(api.Seq)
		state, _, _ = model.Run(state, ops(t, name, inserts...))
		if s, err := runner.State(made(t, name, inserts...)); err != api.OK || !model.Same(s, state) {
			t.Error(len(s.Rows), err)
		}
	}
}

// P20.4

func TestAgree(t *testing.T) {
	want := func(name string, l []api.Op, at int, want api.Errno) {
		t.Helper()
		if n, err := runner.Agree(name, l); n != at || err != want {
			t.Error(name, n, err, at, want)
		}
	}
	want("splay", ops(t, "splay", "put 1 1", "rank 1", "get 1"), -1, api.OK)
	want("list", nil, -1, api.OK)
	for _, name := range []string{"", "tree"} {
		want(name, make([]api.Op, api.MaxOps+1), 0, api.ErrName)
	}
	sizes := slices.Repeat(ops(t, "list", "size"), api.MaxOps)
	want("list", sizes, -1, api.OK)
	want("list", append(sizes, sizes[0]), 0, api.ErrFull)
	want("list", append(sizes, api.Op{}), 0, api.ErrArg)
	want("list", ops(t, "list", "size")[:0:0], -1, api.OK)
	want("gap", append(ops(t, "gap", "reverse 0 0"), api.Op{Code: 99}), 0, api.ErrArg)
	// The model has 500 elements at most, the structures have no such limit: the first results that differ are those of
	// the element with the number 501. Operations that a structure does not have count for the index.
	var l []api.Op
	for range 501 {
		l = append(l, api.Op{Code: api.SeqInsert, Args: []int{0, 5}})
	}
	want("gap", l, 500, api.OK)
	want("gap", append(ops(t, "gap", "reverse 0 0", "sum 0 0"), l...), 502, api.OK)
	want("gap", l[1:], -1, api.OK)
	// Keys that come in ascending order, and again.
	l = nil
	for k := range 250 {
		l = append(l, api.Op{Code: api.DictPut, Args: []int{k * 65536 % api.MaxKey, 1}})
	}
	var last []api.Op
	for k := range 16 {
		last = append(last, api.Op{Code: api.DictGet, Args: []int{k * 65536}})
	}
	want("treap", append(l, last...), -1, api.OK)
}

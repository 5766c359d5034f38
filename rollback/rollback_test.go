package rollback_test

import (
	"slices"
	"testing"

	"heartwood/api"
	"heartwood/copies"
	"heartwood/eval"
	"heartwood/heap"
	"heartwood/library"
	"heartwood/parser"
	"heartwood/rollback"
)

// numbers yields numbers by a fixed rule.
type numbers int

func (n *numbers) below(limit int) int {
	*n = *n * 48271 % 2147483647
	return int(*n) % limit
}

func parse(t *testing.T, s string) api.Desc {
	t.Helper()
	d, place, err := parser.Parse(s)
	if err != api.OK {
		t.Fatal(s, place, err)
	}
	return d
}

func sameMem(a, b api.Mem) bool {
	return slices.Equal(a.Globals, b.Globals) && slices.EqualFunc(a.Nodes, b.Nodes, func(x, y api.Node) bool { return x.Type == y.Type && slices.Equal(x.F, y.F) })
}

func call(proc string, args ...int) api.Call { return api.Call{Proc: proc, Args: args} }

// mixedText has writes of one place several times, nodes that are not reached, and faults after changes.
const mixedText = `desc mixed {
type N { val int; next N; flag bool }
type E { }
var head N
var count int
var e E
proc push(n int) int { local x N; x = new N; x.val = n; x.val = n + 1; x.val = x.val - 1; x.next = head; head = x; count = count + 1; return count; }
proc drop() { head = head.next; }
proc waste(n int) { while 0 < n { e = new E; n = n - 1; } }
proc set(n int) { head.val = n; head.flag = true; head.flag = false; head.next.val = n; }
proc zero(n int) int { e = new E; head = new N; head.val = 5; return n / 0; }
proc look() int { return head.val; }
proc nothing() { }
proc put(x N, n int) { x.val = n; }
}`

// step is a step of a store: the memory after it, and the number of its entries.
type step struct {
	mem    api.Mem
	logged int
}

// tester has a store, and what is known of it.
type tester struct {
	t     *testing.T
	d     api.Desc
	store *rollback.Store
	first api.Mem
	steps []step // undone ones included
	mark  int
}

func newTester(t *testing.T, d api.Desc, m api.Mem) *tester {
	t.Helper()
	s, err := rollback.New(d, m)
	if err != api.OK || s == nil {
		t.Fatal(err)
	}
	r := &tester{t: t, d: d, store: s, first: copies.Mem(m)}
	r.check()
	return r
}

// mem returns the memory with a mark.
func (r *tester) mem(mark int) api.Mem {
	if mark == 0 {
		return r.first
	}
	return r.steps[mark-1].mem
}

func (r *tester) check() {
	r.t.Helper()
	logged := 0
	for _, s := range r.steps[:r.mark] {
		logged += s.logged
	}
	if r.store.Mark() != r.mark || r.store.Marks() != len(r.steps) || r.store.Logged() != logged {
		r.t.Fatal(r.store.Mark(), r.mark, r.store.Marks(), len(r.steps), r.store.Logged(), logged)
	}
	if m := r.store.Memory(); !sameMem(m, r.mem(r.mark)) {
		r.t.Fatal(m, r.mem(r.mark))
	}
}

func (r *tester) call(c api.Call, fuel int, atomic bool) {
	r.t.Helper()
	want, after, wantErr := eval.Run(r.d, r.mem(r.mark), c, fuel)
	if wantErr == api.OK && r.mark == api.MaxOps {
		want, wantErr = api.Outcome{}, api.ErrFull
	}
	f := r.store.Call
	if atomic {
		f = r.store.Atomic
	}
	if o, err := f(c, fuel); o != want || err != wantErr {
		r.t.Fatal(c, o, err, want, wantErr)
	}
	if wantErr == api.OK && (!atomic || want.Fault == api.OK) {
		accesses, _ := eval.Trace(r.d, r.mem(r.mark), c, fuel)
		logged := 0
		for _, a := range accesses {
			if a.Kind != api.Read {
				logged++
			}
		}
		r.steps = append(r.steps[:r.mark:r.mark], step{after, logged})
		r.mark++
	}
	r.check()
}

func (r *tester) undo(mark int) {
	r.t.Helper()
	want := api.OK
	if mark < 0 || mark > r.mark {
		want = api.ErrRange
	} else {
		r.mark = mark
	}
	if err := r.store.Undo(mark); err != want {
		r.t.Fatal("Undo", mark, err, want)
	}
	r.check()
}

func (r *tester) redo() {
	r.t.Helper()
	n, err := r.store.Redo()
	if r.mark == len(r.steps) {
		if n != 0 || err != api.ErrNone {
			r.t.Fatal("Redo", n, err)
		}
	} else if r.mark++; n != r.mark || err != api.OK {
		r.t.Fatal("Redo", n, err)
	}
	r.check()
}

// P37.1 to P37.5: random calls, with undoing and doing again.
func TestStores(t *testing.T) {
	d := parse(t, mixedText)
	shuffled := api.Mem{Globals: []int{3, 7, 0}, Nodes: []api.Node{{Type: 1}, {F: []int{4, 0, 1}}, {F: []int{5, 2, 0}}, {F: []int{6, 3, 1}}}}
	empty, _ := heap.New(d)
	for seed, m := range []api.Mem{empty, shuffled, empty, shuffled} {
		n := numbers(seed + 1)
		r := newTester(t, d, m)
		for range 500 {
			calls := []api.Call{call("push", n.below(9)), call("push", n.below(9)), call("drop"), call("waste", n.below(3)), call("set", n.below(9)), call("zero", 1), call("look"), call("nothing"), call("put", n.below(5), 3), call("put", 0), call("push")}
			switch n.below(5) {
			case 0:
				r.undo(n.below(r.mark+3) - 1)
			case 1:
				r.redo()
			default:
				r.call(calls[n.below(len(calls))], n.below(20), n.below(3) == 0)
			}
		}
		checkScript(r)
		r.undo(0)
		for range r.steps {
			r.redo()
		}
		r.redo()
	}
}

// checkScript compares the outcomes of calls of a store that has no steps with those of a script.
func checkScript(r *tester) {
	r.t.Helper()
	r.undo(0)
	var calls []api.Call
	var outcomes []api.Outcome
	for i := range 40 {
		c := []api.Call{call("push", i), call("zero", 1), call("set", i), call("drop")}[i*7%11%4]
		o, _ := r.store.Call(c, 50)
		calls, outcomes = append(calls, c), append(outcomes, o)
	}
	want, m, _ := eval.Script(r.d, r.first, calls, 50)
	if !slices.Equal(outcomes, want) || !sameMem(r.store.Memory(), m) {
		r.t.Fatal(outcomes, want)
	}
	if err := r.store.Undo(0); err != api.OK || !sameMem(r.store.Memory(), r.first) {
		r.t.Fatal(err)
	}
	r.steps, r.mark = nil, 0
	r.store, _ = rollback.New(r.d, r.first)
}

func TestLibrary(t *testing.T) {
	for _, name := range library.Names() {
		d, _ := library.Load(name)
		n := numbers(len(name))
		m, _ := heap.New(d)
		r := newTester(t, d, m)
		for range 60 {
			for size := range 3 {
				o := api.Op{Code: 1 + n.below(3)}
				for range size {
					o.Args = append(o.Args, n.below(30))
				}
				if c, err := library.Bind(name, o); err == api.OK {
					r.call(c, 10000, true)
				}
			}
			if n.below(4) == 0 {
				r.undo(n.below(r.mark + 1))
				r.redo()
			}
		}
	}
}

func TestExample(t *testing.T) {
	d := parse(t, mixedText)
	m, _ := heap.New(d)
	r := newTester(t, d, m)
	r.call(call("push", 1), 100, false)
	r.call(call("push", 2), 100, false)
	r.undo(1)
	if len(r.store.Memory().Nodes) != 1 {
		t.Error(r.store.Memory())
	}
	if n, err := r.store.Redo(); n != 2 || err != api.OK || len(r.store.Memory().Nodes) != 2 {
		t.Error(n, err)
	}
}

// A call that is refused, and an atomic one that faults, keep undone steps; any step removes them.
func TestUndoneSteps(t *testing.T) {
	d := parse(t, mixedText)
	m, _ := heap.New(d)
	r := newTester(t, d, m)
	for i := range 5 {
		r.call(call("push", i), 100, i%2 == 0)
	}
	r.undo(2)
	r.call(call("zero", 1), 100, true)
	r.call(call("none"), 100, false)
	r.call(call("push", 1), api.MaxFuel+1, false)
	r.call(call("push", 1), -1, true)
	r.redo()
	if r.mark != 3 || len(r.steps) != 5 {
		t.Error(r.mark, len(r.steps))
	}
	r.call(call("zero", 1), 100, false)
	r.redo()
	r.undo(2)
	r.call(call("look"), 100, true)
	r.redo()
	if len(r.steps) != 3 {
		t.Error(len(r.steps))
	}
	for _, mark := range []int{-1, 4, 1<<63 - 1, -1 << 63} {
		r.undo(mark)
	}
}

// As many steps as may be done.
func TestLimits(t *testing.T) {
	d := parse(t, mixedText)
	m, _ := heap.New(d)
	r := newTester(t, d, m)
	for range api.MaxOps / 2 {
		r.call(call("nothing"), 1, false)
		r.call(call("push", 1), 0, false)
	}
	for _, atomic := range []bool{false, true} {
		r.call(call("push", 1), 100, atomic)
		r.call(call("zero", 1), 100, atomic)
		r.call(call("none"), 100, atomic)
		r.call(call("push"), 100, atomic)
	}
	r.undo(api.MaxOps - 1)
	r.call(call("zero", 1), 100, true)
	r.redo()
	r.undo(api.MaxOps - 1)
	r.call(call("push", 1), 100, true)
	r.call(call("push", 1), 100, true)
}

func TestNewErrors(t *testing.T) {
	d := parse(t, mixedText)
	m, _ := heap.New(d)
	wrong := parse(t, mixedText)
	wrong.Procs[0].Body = wrong.Procs[0].Body[:2]
	wrong.Procs[0].Result = "bool"
	wrong.Procs[5].Result = "bool"
	for i, s := range []struct {
		d api.Desc
		m api.Mem
	}{{api.Desc{}, api.Mem{}}, {d, api.Mem{}}, {d, api.Mem{Globals: []int{1, 0, 0}}}, {wrong, m}, {api.Desc{Name: "1"}, m}} {
		if x, err := rollback.New(s.d, s.m); x != nil || err != api.ErrArg {
			t.Error(i, err)
		}
	}
}

func TestSharing(t *testing.T) {
	d := parse(t, mixedText)
	own := parse(t, mixedText)
	m := api.Mem{Globals: []int{1, 7, 0}, Nodes: []api.Node{{F: []int{4, 0, 1}}}}
	r := newTester(t, own, m)
	r.d = d
	own.Procs[0].Body[0].S = "y"
	own.Types[0].Fields = nil
	own.Globals[0].Type = "int"
	m.Nodes[0].F[0] = 99
	m.Globals[0] = 0
	r.check()
	r.call(call("push", 3), 100, false)
	x := r.store.Memory()
	x.Nodes[0].F[0] = 77
	clear(x.Globals)
	r.undo(0)
	x = r.store.Memory()
	x.Nodes[0].F[0] = 77
	r.redo()
	r.check()
}

func TestNil(t *testing.T) {
	var s *rollback.Store
	for range 2 {
		for _, f := range []func(api.Call, int) (api.Outcome, api.Errno){s.Call, s.Atomic} {
			if o, err := f(call("p"), -1); o != (api.Outcome{}) || err != api.ErrArg {
				t.Error(o, err)
			}
		}
		if s.Mark() != 0 || s.Logged() != 0 || s.Marks() != 0 || s.Memory().Globals != nil {
			t.Error("values")
		}
		if n, err := s.Redo(); n != 0 || s == nil && err != api.ErrArg || s != nil && err != api.ErrNone {
			t.Error(n, err)
		}
		if err := s.Undo(-1); s == nil && err != api.ErrArg || s != nil && err != api.ErrRange {
			t.Error(err)
		}
		s = &rollback.Store{}
	}
}

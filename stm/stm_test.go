package stm_test

import (
	"slices"
	"testing"

	"heartwood/api"
	"heartwood/eval"
	"heartwood/heap"
	"heartwood/library"
	"heartwood/model"
	"heartwood/parser"
	"heartwood/stm"
	"heartwood/vm"
)

const listText = `desc list {
type N { val int; next N }
type E { }
var head N
var c int
proc push(n int) int { local x N; x = new N; x.val = n; x.next = head; head = x; return n; }
proc pop() int { local v int; v = head.val; head = head.next; return v; }
proc sum() int { local x N; local s int; x = head; while x != nil and s < 1000 { s = s + x.val; x = x.next; } return s; }
proc add(n int) { c = c + n; c = c + 1; c = c - 1; }
proc none(n int) int { return n * 2; }
proc zero() int { c = 9; head = new N; return 1 / 0; }
proc double() { local x N; x = head; while x != nil { x.val = x.val * 2 % 100; x = x.next; } }
proc loop() { while true { c = c + 1; } }
proc many() { while true { head = new N; } }
}`

func start(t *testing.T, c api.Code, m api.Mem, fuel int, calls ...[]api.Call) api.Transactions {
	t.Helper()
	s, err := stm.New(c, m, calls, fuel)
	if err != api.OK {
		t.Fatal(err)
	}
	n := len(calls)
	want := api.Transactions{Mem: m, Versions: [][]int{make([]int, len(m.Globals))}, Fuel: fuel, Active: make([]api.Transaction, n), Calls: calls, Results: make([][]api.Outcome, n), Begins: make([][]int, n), Ends: make([][]int, n)}
	for _, x := range m.Nodes {
		want.Versions = append(want.Versions, make([]int, len(x.F)))
	}
	if !same(s, want) {
		t.Fatal(s, want)
	}
	return s
}

// checkSteps does random steps, and compares each of them; it returns the last state.
func checkSteps(t *testing.T, c api.Code, s api.Transactions, n *numbers, most int) api.Transactions {
	t.Helper()
	first := clone(s)
	var schedule []int
	for len(schedule) < most {
		want := enabled(s)
		l, err := stm.Enabled(c, s)
		if !slices.Equal(l, want) || err != api.OK || stm.Done(s) != (len(want) == 0) {
			t.Fatal(l, err, want)
		}
		for i := range s.Calls {
			if !slices.Contains(want, i) {
				refused(t, c, s, i, api.ErrEmpty)
			}
		}
		if len(want) == 0 {
			break
		}
		thread := want[n.below(len(want))]
		after, before := step(c, s, thread), clone(s)
		got, err := stm.Step(c, s, thread)
		if err != api.OK || !same(got, after) || !same(s, before) {
			t.Fatal("Step", thread, got, err, after)
		}
		spoil(&got)
		if !same(s, before) {
			t.Fatal("results share memory with arguments")
		}
		s = after
		schedule = append(schedule, thread)
	}
	if got, done, err := stm.Run(c, first, schedule); done != len(schedule) || err != api.OK || !same(got, s) {
		t.Fatal("Run", done, err)
	}
	return s
}

// spoil changes all numbers that a state refers to.
func spoil(s *api.Transactions) {
	clear(s.Mem.Globals)
	for i, n := range s.Mem.Nodes {
		clear(n.F)
		clear(s.Versions[i+1])
	}
	for i, x := range s.Active {
		for _, f := range x.Running.Frames {
			clear(f.Locals)
			clear(f.Stack)
		}
		clear(x.Running.Frames)
		clear(x.Reads)
		clear(x.Writes)
		for _, x := range s.Calls[i] {
			clear(x.Args)
		}
		clear(s.Calls[i])
		clear(s.Results[i])
		clear(s.Begins[i])
		clear(s.Ends[i])
	}
	clear(s.Versions[0])
	clear(s.Active)
	clear(s.Order)
}

func refused(t *testing.T, c api.Code, s api.Transactions, thread int, want api.Errno) {
	t.Helper()
	if got, err := stm.Step(c, s, thread); err != want || !isZero(got) {
		t.Fatal("Step", thread, err, want)
	}
}

func randomCalls(n *numbers, size int) []api.Call {
	var l []api.Call
	for range size {
		l = append(l, []api.Call{call("push", n.below(9)), call("pop"), call("sum"), call("add", 2), call("none", 4), call("zero"), call("double"), call("loop"), call("many")}[n.below(9)])
	}
	return l
}

// checkSerial checks that a state is that of plain runs, one after the other in the order of the commits.
func checkSerial(t *testing.T, d api.Desc, m api.Mem, s api.Transactions, calls [][]api.Call) {
	t.Helper()
	for _, o := range s.Order {
		want, after, err := eval.Run(d, m, calls[o[0]][o[1]], s.Fuel)
		if got := s.Results[o[0]][o[1]]; err != api.OK || got != want {
			t.Fatal(o, calls[o[0]][o[1]], got, want, err)
		}
		if want.Fault == api.OK {
			m = after
		}
	}
	if is, err := heap.Same(d, m, s.Mem); !is || err != api.OK {
		t.Fatal(m, s.Mem, err)
	}
}

// P46.1 to P46.3, and P46.5: random schedules.
func TestSchedules(t *testing.T) {
	c := compile(t, listText)
	d, _, _ := parser.Parse(listText)
	m := api.Mem{Globals: []int{2, 5}, Nodes: []api.Node{{F: []int{4, 0}}, {F: []int{7, 1}}}}
	aborts := 0
	for seed := 1; seed <= 40; seed++ {
		n := numbers(seed)
		var calls [][]api.Call
		for range 1 + n.below(4) {
			calls = append(calls, randomCalls(&n, n.below(4)))
		}
		s := start(t, c, m, n.below(25), calls...)
		s = checkSteps(t, c, s, &n, n.below(60))
		checkSerial(t, d, m, s, calls)
		want := clone(s)
		for l := enabled(want); len(l) > 0; l = enabled(want) {
			want = step(c, want, l[0])
		}
		if got, err := stm.Finish(c, s); err != api.OK || !same(got, want) {
			t.Fatal(err)
		}
		s = checkSteps(t, c, s, &n, 10000)
		checkSerial(t, d, m, s, calls)
		if len(enabled(s)) > 0 || len(calls) == 1 && s.Aborts > 0 {
			t.Fatal(s)
		}
		aborts += s.Aborts
	}
	if aborts < 20 {
		t.Error("too few aborts to test them", aborts)
	}
}

// Codes that no compiler makes: places that there are not.
func TestStrangeCodes(t *testing.T) {
	c := code(t, "p 2 2 yes: local 0, field 1, pop, local 0, local 1, setfield 1, const 3, return; q 0 0 yes: const 9, field 0, return; w 0 0 no: const 1, setglobal 0, const 9, const 1, setfield 0, return; e 0 0 yes: new 1, field 0, return; l 0 0 no: jump 0; g 0 0 yes: global 0, setglobal 1, global 1, return")
	m := api.Mem{Globals: []int{1, 2}, Nodes: []api.Node{{F: []int{3, 4}}, {Type: 1}}}
	for seed := range 30 {
		n := numbers(seed + 1)
		s := start(t, c, m, 5, []api.Call{call("p", 1, 8), call("p", 2, 8), call("p", 0, 8), call("g")}, []api.Call{call("q"), call("w"), call("e")}, []api.Call{call("g"), call("l"), call("p", 1, 7)})
		s = checkSteps(t, c, s, &n, 1000)
		var faults []api.Errno
		for _, o := range slices.Concat(s.Results...) {
			faults = append(faults, o.Fault)
		}
		if faults[0] != api.OK || faults[2] != api.ErrNil || faults[5] != api.ErrType || faults[6] != api.ErrType || faults[8] != api.ErrLimit || s.Mem.Globals[0] != 1 {
			t.Fatal(faults)
		}
	}
	// A call that asks for no place that there is ends in its first step.
	s := start(t, c, m, 5, []api.Call{call("q")})
	if s, err := stm.Step(c, s, 0); err != api.OK || len(s.Ends[0]) != 1 || s.Results[0][0] != (api.Outcome{Fault: api.ErrType}) {
		t.Error(s, err)
	}
}

func TestExample(t *testing.T) {
	c := compile(t, "desc d { var c int proc add() { c = c + 1; } }")
	s := start(t, c, api.Mem{Globals: []int{0}}, 10, []api.Call{call("add")}, []api.Call{call("add")})
	s, n, err := stm.Run(c, s, []int{0, 1, 0, 1, 0, 1})
	if n != 6 || err != api.OK || s.Mem.Globals[0] != 1 || s.Aborts != 1 || s.Ends[0][0] != 4 || len(s.Ends[1]) != 0 {
		t.Error(s, n, err)
	}
	s, err = stm.Finish(c, s)
	if err != api.OK || s.Mem.Globals[0] != 2 || s.Begins[1][0] != 1 {
		t.Error(s, err)
	}
}

// A call has one step more than accesses, at least two; with one thread there are no aborts.
func TestSingleThreads(t *testing.T) {
	for _, name := range library.Names() {
		source, _ := library.Source(name)
		c := compile(t, source)
		d, _, _ := parser.Parse(source)
		m, _ := heap.New(d)
		n := numbers(len(name))
		var calls []api.Call
		for range 30 {
			for size := range 3 {
				o := api.Op{Code: 1 + n.below(4)}
				for range size {
					o.Args = append(o.Args, n.below(20))
				}
				if x, err := library.Bind(name, o); err == api.OK {
					calls = append(calls, x)
				}
			}
		}
		s, err := stm.Finish(c, start(t, c, m, 1000, calls))
		if err != api.OK || s.Aborts != 0 {
			t.Fatal(name, err)
		}
		checkSerial(t, d, m, s, [][]api.Call{calls})
		now := 0
		for i, x := range calls {
			accesses, _ := vm.Accesses(c, m, x, 1000)
			o, after, _ := vm.Run(c, m, x, 1000)
			if o.Fault == api.OK {
				m = after
			}
			if s.Begins[0][i] != now || s.Ends[0][i] != now+max(2, len(accesses)+1)-1 {
				t.Fatal(name, x, s.Begins[0][i], s.Ends[0][i], now, len(accesses))
			}
			now = s.Ends[0][i] + 1
		}
	}
}

// Calls that write nothing make none abort.
func TestReaders(t *testing.T) {
	c := compile(t, listText)
	m := api.Mem{Globals: []int{2, 5}, Nodes: []api.Node{{F: []int{4, 0}}, {F: []int{7, 1}}}}
	n := numbers(9)
	readers := []api.Call{call("sum"), call("none", 2), call("sum")}
	s := checkSteps(t, c, start(t, c, m, 50, readers, readers, readers), &n, 10000)
	if s.Aborts != 0 || s.Clock != 0 || len(s.Order) != 9 {
		t.Error(s)
	}
}

func TestNewErrors(t *testing.T) {
	c := compile(t, listText)
	unsound := api.Code{Funcs: []api.Func{{Name: "p", Code: []api.Instr{{Op: api.IPop}}}}}
	m := api.Mem{Globals: []int{0, 0}}
	many := make([][]api.Call, api.MaxThreads+1)
	long := slices.Repeat([]api.Call{call("sum")}, api.MaxOps+1)
	for i, x := range []struct {
		c     api.Code
		m     api.Mem
		calls [][]api.Call
		fuel  int
		want  api.Errno
	}{
		{unsound, api.Mem{}, nil, -1, api.ErrArg}, {c, api.Mem{}, nil, -1, api.ErrArg}, {c, api.Mem{Globals: []int{0, 0}, Nodes: []api.Node{{Type: 2}}}, nil, -1, api.ErrArg},
		{c, m, nil, -1, api.ErrRange}, {c, m, many, api.MaxFuel + 1, api.ErrRange}, {c, m, nil, 0, api.ErrSize}, {c, m, many, 0, api.ErrFull}, {c, m, [][]api.Call{{call("?")}, long}, 0, api.ErrFull},
		{c, m, [][]api.Call{{call("sum")}, {call("pop"), call("?", 1)}, {call("pop", 1)}}, 0, api.ErrName}, {c, m, [][]api.Call{{call("sum")}, {call("pop", 1)}, {call("?")}}, 0, api.ErrSize}, {c, m, [][]api.Call{{call("push", 1<<50), call("pop", 1)}}, 0, api.ErrType},
	} {
		if s, err := stm.New(x.c, x.m, x.calls, x.fuel); err != x.want || !isZero(s) {
			t.Error(i, err, x.want)
		}
	}
	s := start(t, c, m, api.MaxFuel, slices.Repeat([][]api.Call{long[1:]}, api.MaxThreads)...)
	refused(t, c, s, -1, api.ErrRange)
	refused(t, c, s, api.MaxThreads, api.ErrRange)
	calls := [][]api.Call{{call("push", 4)}}
	s = start(t, c, m, 5, calls...)
	calls[0][0].Args[0] = 5
	m.Globals[0] = 1
	if s.Calls[0][0].Args[0] != 4 || s.Mem.Globals[0] != 0 {
		t.Error("a result shares memory with arguments")
	}
}

func TestLimits(t *testing.T) {
	c := compile(t, listText)
	m := api.Mem{Globals: []int{0, 0}}
	s := start(t, c, m, api.MaxFuel, []api.Call{call("loop")}, []api.Call{call("add", 1)})
	if got, err := stm.Finish(c, s); err != api.ErrLimit || !isZero(got) {
		t.Error(err)
	}
	schedule := make([]int, api.MaxSteps)
	if got, n, err := stm.Run(c, s, append(schedule, 0)); n != 0 || err != api.ErrFull || !isZero(got) {
		t.Error(n, err)
	}
	last, n, err := stm.Run(c, s, schedule)
	if n != api.MaxSteps || err != api.OK || last.Step != api.MaxSteps || last.Mem.Globals[1] != 0 || last.Active[0].Writes[0] != [3]int{0, 1, api.MaxSteps / 2} {
		t.Fatal(n, err)
	}
	if got, err := stm.Step(c, last, 0); err != api.ErrLimit || !isZero(got) {
		t.Error(err)
	}
	if got, n, err := stm.Run(c, last, []int{0}); n != 0 || err != api.OK || !same(got, last) {
		t.Error(n, err)
	}
	if _, err := stm.Finish(c, last); err != api.ErrLimit {
		t.Error(err)
	}
	refused(t, c, last, 2, api.ErrRange)
	for _, l := range [][]int{{1, 0, -1, 0}, {1, 0, 2}, {1, 0, 1 << 40}} {
		if got, n, err := stm.Run(c, s, l); n != 2 || err != api.OK || got.Step != 2 {
			t.Error(l, n, err)
		}
	}
	// A memory that is full answers allocations with 0.
	s = start(t, c, m, api.MaxFuel, []api.Call{call("many")}, []api.Call{call("push", 1)})
	s, err = stm.Finish(c, s)
	if err != api.OK || len(s.Mem.Nodes) != api.MaxNodes || s.Results[0][0].Fault != api.ErrMemory || s.Results[1][0] != (api.Outcome{Fault: api.ErrMemory}) || s.Mem.Globals[0] != 0 {
		t.Error(err, s.Results)
	}
	if stm.Done(api.Transactions{Calls: [][]api.Call{nil, {{}}}}) || !stm.Done(api.Transactions{}) || !stm.Done(api.Transactions{Calls: [][]api.Call{{}}, Step: -1}) {
		t.Error("Done")
	}
}

// P46.4
func TestHistory(t *testing.T) {
	source, _ := library.Source("list")
	d, _, _ := parser.Parse(source)
	c := compile(t, source)
	m, _ := heap.New(d)
	n := numbers(5)
	ops := make([][]api.Op, 3)
	calls := make([][]api.Call, 3)
	for thread := range ops {
		for range 5 {
			o := api.Op{Code: 1 + n.below(4), Args: []int{n.below(4), 7}}
			if o.Code != api.DictPut {
				o.Args = o.Args[:1]
			}
			x, _ := library.Bind("list", o)
			ops[thread], calls[thread] = append(ops[thread], o), append(calls[thread], x)
		}
	}
	s := start(t, c, m, 1000, calls...)
	for range 12 {
		checkHistory(t, s, ops)
		s = checkSteps(t, c, s, &n, 30)
	}
	s, _ = stm.Finish(c, s)
	events := checkHistory(t, s, ops)
	// In the order of the commits the results are those of the model.
	state, _ := model.New(api.Dict)
	for _, o := range s.Order {
		e := events[5*o[0]+o[1]]
		var want api.Res
		state, want, _ = model.Apply(state, e.Op)
		if e.Res.N != want.N || e.Res.Err != want.Err {
			t.Fatal(e, want)
		}
	}
	for _, e := range events {
		clear(e.Op.Args)
	}
	checkHistory(t, s, ops)
}

func checkHistory(t *testing.T, s api.Transactions, ops [][]api.Op) []api.Event {
	t.Helper()
	events, err := stm.History("list", s, ops)
	if err != api.OK {
		t.Fatal(err)
	}
	at := 0
	for thread, begins := range s.Begins {
		for i, begin := range begins {
			e := events[at]
			at++
			want := api.Event{Thread: thread, Op: ops[thread][i], Begin: begin, End: -1}
			if i < len(s.Ends[thread]) {
				want.End = s.Ends[thread][i]
				want.Res, _ = library.Result("list", ops[thread][i], s.Results[thread][i])
			}
			if e.Thread != want.Thread || e.Op.Code != want.Op.Code || !slices.Equal(e.Op.Args, want.Op.Args) || e.Begin != want.Begin || e.End != want.End || e.Res.N != want.Res.N || e.Res.Err != want.Res.Err {
				t.Fatal(e, want)
			}
		}
	}
	if at != len(events) {
		t.Fatal(events)
	}
	return events
}

func TestHistoryErrors(t *testing.T) {
	get, rank, wrong := api.Op{Code: api.DictGet, Args: []int{1}}, api.Op{Code: api.DictRank, Args: []int{1}}, api.Op{Code: 99}
	state := func(begins, ends, results int) api.Transactions {
		return api.Transactions{Begins: [][]int{make([]int, begins)}, Ends: [][]int{make([]int, ends)}, Results: [][]api.Outcome{make([]api.Outcome, results)}}
	}
	one := [][]api.Op{{get}}
	for i, x := range []struct {
		name string
		s    api.Transactions
		ops  [][]api.Op
		want api.Errno
	}{
		{"nope", api.Transactions{}, one, api.ErrName}, {"bst", api.Transactions{}, one, api.ErrSize}, {"bst", state(0, 0, 0), nil, api.ErrSize}, {"bst", api.Transactions{}, nil, api.OK},
		{"bst", api.Transactions{Begins: make([][]int, 1), Ends: make([][]int, 1)}, one, api.ErrSize}, {"bst", api.Transactions{Begins: make([][]int, 1), Results: make([][]api.Outcome, 1)}, one, api.ErrSize}, {"bst", api.Transactions{Ends: make([][]int, 1), Results: make([][]api.Outcome, 1)}, one, api.ErrSize},
		{"bst", state(2, 0, 0), one, api.ErrSize}, {"bst", state(1, 2, 2), one, api.ErrSize}, {"bst", state(1, 1, 0), one, api.ErrSize}, {"bst", state(1, 0, 1), one, api.ErrSize}, {"bst", state(0, 0, 0), one, api.OK}, {"bst", state(1, 1, 1), one, api.OK}, {"bst", state(1, 0, 0), one, api.OK},
		{"bst", state(1, 1, 1), [][]api.Op{{rank}}, api.ErrNone}, {"bst", state(1, 0, 0), [][]api.Op{{rank}}, api.ErrNone}, {"bst", state(0, 0, 0), [][]api.Op{{rank}}, api.OK}, {"bst", state(1, 1, 1), [][]api.Op{{wrong}}, api.ErrArg}, {"bst", state(2, 1, 1), [][]api.Op{{get, wrong}}, api.ErrArg}, {"bst", state(2, 1, 1), [][]api.Op{{rank, wrong}}, api.ErrNone}, {"bst", state(2, 1, 1), [][]api.Op{{wrong, rank}}, api.ErrArg},
	} {
		if l, err := stm.History(x.name, x.s, x.ops); err != x.want || err != api.OK && l != nil {
			t.Error(i, l, err, x.want)
		}
	}
}

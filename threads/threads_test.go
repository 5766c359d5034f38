package threads_test

import (
	"slices"
	"testing"

	"heartwood/api"
	"heartwood/library"
	"heartwood/parser"
	"heartwood/threads"
	"heartwood/vm"
)

const listText = `desc list {
type N { val int; next N }
type E { }
var head N
var c int
proc push(n int) int { local x N; x = new N; x.val = n; x.next = head; head = x; return n; }
proc pop() int { local v int; v = head.val; head = head.next; return v; }
proc sum() int { local x N; local s int; x = head; while x != nil and s < 1000 { s = s + x.val; x = x.next; } return s; }
proc add(n int) { c = c + n; }
proc none(n int) int { return n * 2; }
proc zero() int { c = 9; return 1 / 0; }
proc loop() { while true { c = c + 1; } }
proc many() { while true { head = new N; } }
}`

func start(t *testing.T, c api.Code, m api.Mem, fuel int, calls ...[]api.Call) api.Threads {
	t.Helper()
	s, err := threads.New(c, m, calls, fuel)
	if err != api.OK {
		t.Fatal(err)
	}
	n := len(calls)
	want := api.Threads{Mem: m, Fuel: fuel, Running: make([]api.Machine, n), Nodes: make([]int, n), Calls: calls, Results: make([][]api.Outcome, n), Begins: make([][]int, n), Ends: make([][]int, n)}
	if !same(s, want) {
		t.Fatal(s, want)
	}
	return s
}

// checkSteps does random steps, and compares each of them; it returns the last state, and the schedule.
func checkSteps(t *testing.T, c api.Code, s api.Threads, n *numbers, most int) (api.Threads, []int) {
	t.Helper()
	first := clone(s)
	var schedule []int
	for len(schedule) < most {
		want := enabled(s)
		l, err := threads.Enabled(c, s)
		if !slices.Equal(l, want) || err != api.OK || threads.Done(s) != (len(want) == 0) {
			t.Fatal(l, err, want)
		}
		for i := range s.Running {
			if !slices.Contains(want, i) {
				refused(t, c, s, i, api.ErrEmpty)
			}
		}
		if len(want) == 0 {
			break
		}
		thread := want[n.below(len(want))]
		after, access := step(c, s, thread)
		before := clone(s)
		if a, err := threads.Next(c, s, thread); a != access || err != api.OK {
			t.Fatal("Next", a, err, access)
		}
		got, err := threads.Step(c, s, thread)
		if err != api.OK || !same(got, after) || !same(s, before) {
			t.Fatal("Step", thread, got, err, after)
		}
		spoil(&got)
		if !same(s, before) {
			t.Fatal("results share memory with arguments")
		}
		s = after
		schedule = append(schedule, thread)
	}
	if got, done, err := threads.Run(c, first, schedule); done != len(schedule) || err != api.OK || !same(got, s) {
		t.Fatal("Run", done, err)
	}
	return s, schedule
}

// spoil changes all numbers that a state refers to.
func spoil(s *api.Threads) {
	clear(s.Mem.Globals)
	for _, n := range s.Mem.Nodes {
		clear(n.F)
	}
	for _, m := range s.Running {
		for _, f := range m.Frames {
			clear(f.Locals)
			clear(f.Stack)
		}
		clear(m.Frames)
	}
	for i := range s.Running {
		for _, x := range s.Calls[i] {
			clear(x.Args)
		}
		clear(s.Calls[i])
		clear(s.Results[i])
		clear(s.Begins[i])
		clear(s.Ends[i])
	}
	clear(s.Nodes)
	clear(s.Running)
}

func refused(t *testing.T, c api.Code, s api.Threads, thread int, want api.Errno) {
	t.Helper()
	if got, err := threads.Step(c, s, thread); err != want || !isZero(got) {
		t.Fatal("Step", thread, err, want)
	}
	if a, err := threads.Next(c, s, thread); err != want || a != (api.Access{}) {
		t.Fatal("Next", thread, a, err, want)
	}
}

func randomCalls(n *numbers, size int) []api.Call {
	var l []api.Call
	for range size {
		l = append(l, []api.Call{call("push", n.below(9)), call("pop"), call("sum"), call("add", 2), call("none", 4), call("zero"), call("loop"), call("many")}[n.below(8)])
	}
	return l
}

// P45.1 to P45.3: random schedules.
func TestSchedules(t *testing.T) {
	c := compile(t, listText)
	m := api.Mem{Globals: []int{2, 5}, Nodes: []api.Node{{F: []int{4, 0}}, {F: []int{7, 1}}}}
	for seed := 1; seed <= 25; seed++ {
		n := numbers(seed)
		var calls [][]api.Call
		for range 1 + n.below(4) {
			calls = append(calls, randomCalls(&n, n.below(4)))
		}
		s := start(t, c, m, n.below(30), calls...)
		s, _ = checkSteps(t, c, s, &n, n.below(60))
		checkFinish(t, c, s)
		s, _ = checkSteps(t, c, s, &n, 10000)
		if len(enabled(s)) > 0 {
			t.Fatal("not done")
		}
	}
}

func checkFinish(t *testing.T, c api.Code, s api.Threads) {
	t.Helper()
	want := clone(s)
	for l := enabled(want); len(l) > 0; l = enabled(want) {
		want, _ = step(c, want, l[0])
	}
	if got, err := threads.Finish(c, s); err != api.OK || !same(got, want) {
		t.Fatal(got, err, want)
	}
}

// Codes that no compiler makes: places that there are not, and loops without ticks.
func TestStrangeCodes(t *testing.T) {
	c := code(t, "p 2 2 yes: local 0, field 1, pop, local 0, local 1, setfield 1, const 3, return; q 0 0 yes: const 9, field 0, return; w 0 0 no: const 9, const 1, setfield 0, return; e 0 0 yes: new 1, field 0, return; l 0 0 no: jump 0; g 0 0 yes: const 4, setglobal 1, global 1, return")
	m := api.Mem{Globals: []int{1, 2}, Nodes: []api.Node{{F: []int{3, 4}}, {Type: 1}}}
	n := numbers(2)
	for range 10 {
		s := start(t, c, m, 5, []api.Call{call("p", 1, 8), call("p", 2, 8), call("p", 0, 8), call("p", 3, 8)}, []api.Call{call("q"), call("w"), call("e")}, []api.Call{call("g"), call("l"), call("g")})
		s, _ = checkSteps(t, c, s, &n, 1000)
		var faults []api.Errno
		for _, o := range slices.Concat(s.Results...) {
			faults = append(faults, o.Fault)
		}
		if faults[0] != api.OK || faults[2] != api.ErrNil || faults[4] == api.OK && len(s.Mem.Nodes) < 9 || faults[6] != api.ErrType || faults[8] != api.ErrLimit {
			t.Fatal(faults)
		}
	}
}

func TestExample(t *testing.T) {
	c := compile(t, "desc d { var c int proc add() { c = c + 1; } }")
	for schedule, want := range map[string]int{"0011": 2, "0101": 1, "0110": 1, "1100": 2} {
		s := start(t, c, api.Mem{Globals: []int{0}}, 10, []api.Call{call("add")}, []api.Call{call("add")})
		var l []int
		for _, b := range schedule {
			l = append(l, int(b-'0'))
		}
		s, n, err := threads.Run(c, s, l)
		if n != 4 || err != api.OK || s.Mem.Globals[0] != want || !threads.Done(s) {
			t.Error(schedule, s.Mem, n, err)
		}
	}
}

// P45.4: a single thread, and threads that are not interleaved, do what runs do; a call has as many steps as accesses.
func TestRuns(t *testing.T) {
	for _, name := range library.Names() {
		source, _ := library.Source(name)
		c := compile(t, source)
		d, _, _ := parser.Parse(source)
		m := api.Mem{Globals: make([]int, len(d.Globals))}
		n := numbers(len(name))
		var calls []api.Call
		for range 40 {
			for size := range 3 {
				o := api.Op{Code: 1 + n.below(4)}
				for range size {
					o.Args = append(o.Args, n.below(20))
				}
				if x, err := library.Bind(name, o); err == api.OK {
					calls = append(calls, x)
				}
			}
		}
		for _, parts := range [][][]api.Call{{calls}, {calls[:20], nil, calls[20:]}} {
			s, err := threads.Finish(c, start(t, c, m, 1000, parts...))
			if err != api.OK {
				t.Fatal(err)
			}
			checkRuns(t, c, m, s, calls)
		}
	}
}

func checkRuns(t *testing.T, c api.Code, m api.Mem, s api.Threads, calls []api.Call) {
	t.Helper()
	results, begins, ends := slices.Concat(s.Results...), slices.Concat(s.Begins...), slices.Concat(s.Ends...)
	now := 0
	for i, x := range calls {
		accesses, _ := vm.Accesses(c, m, x, 1000)
		var want api.Outcome
		want, m, _ = vm.Run(c, m, x, 1000)
		if results[i] != want || begins[i] != now || ends[i] != now+max(1, len(accesses))-1 {
			t.Fatal(x, results[i], want, begins[i], ends[i], now, len(accesses))
		}
		now = ends[i] + 1
	}
	if !sameMem(s.Mem, m) || s.Step != now {
		t.Fatal(s.Mem, m)
	}
}

// Two steps of different threads that make accesses to different places, or both read, can be exchanged.
func TestExchange(t *testing.T) {
	c := compile(t, listText)
	n := numbers(7)
	for range 40 {
		s := start(t, c, api.Mem{Globals: []int{0, 0}}, 20, randomCalls(&n, 3), randomCalls(&n, 3))
		for len(enabled(s)) == 2 {
			a, _ := threads.Next(c, s, 0)
			b, _ := threads.Next(c, s, 1)
			if a != (api.Access{}) && b != (api.Access{}) && (a.Kind != api.Alloc || b.Kind != api.Alloc) && (a.Node != b.Node || a.Field != b.Field || a.Kind == api.Read && b.Kind == api.Read) {
				x, _, _ := threads.Run(c, s, []int{0, 1})
				y, _, _ := threads.Run(c, s, []int{1, 0})
				x.Begins, x.Ends, y.Begins, y.Ends = nil, nil, nil, nil
				if !same(x, y) {
					t.Fatal(a, b, x, y)
				}
			}
			s, _ = step(c, s, n.below(2))
		}
	}
}

func TestNewErrors(t *testing.T) {
	c := compile(t, listText)
	unsound := api.Code{Funcs: []api.Func{{Name: "p", Code: []api.Instr{{Op: api.IPop}}}}}
	m := api.Mem{Globals: []int{0, 0}}
	many := make([][]api.Call, api.MaxThreads+1)
	long := slices.Repeat([]api.Call{call("sum")}, api.MaxOps+1)
	for i, x := range []struct {
		c     api.Code
		m     api.Mem
		calls [][]api.Call
		fuel  int
		want  api.Errno
	}{
		{unsound, api.Mem{}, nil, -1, api.ErrArg}, {c, api.Mem{}, nil, -1, api.ErrArg}, {c, api.Mem{Globals: []int{0, 0}, Nodes: []api.Node{{Type: 2}}}, nil, -1, api.ErrArg},
		{c, m, nil, -1, api.ErrRange}, {c, m, many, api.MaxFuel + 1, api.ErrRange}, {c, m, nil, 0, api.ErrSize}, {c, m, many, 0, api.ErrFull}, {c, m, [][]api.Call{{call("?")}, long}, 0, api.ErrFull},
		{c, m, [][]api.Call{{call("sum")}, {call("pop"), call("?", 1)}, {call("pop", 1)}}, 0, api.ErrName}, {c, m, [][]api.Call{{call("sum")}, {call("pop", 1)}, {call("?")}}, 0, api.ErrSize}, {c, m, [][]api.Call{{call("push", 1<<50), call("pop", 1)}}, 0, api.ErrType},
	} {
		if s, err := threads.New(x.c, x.m, x.calls, x.fuel); err != x.want || !isZero(s) {
			t.Error(i, err, x.want)
		}
	}
	s := start(t, c, m, api.MaxFuel, slices.Repeat([][]api.Call{long[1:]}, api.MaxThreads)...)
	refused(t, c, s, -1, api.ErrRange)
	refused(t, c, s, api.MaxThreads, api.ErrRange)
	calls := [][]api.Call{{call("push", 4)}}
	s = start(t, c, m, 5, calls...)
	calls[0][0].Args[0] = 5
	m.Globals[0] = 1
	if s.Calls[0][0].Args[0] != 4 || s.Mem.Globals[0] != 0 {
		t.Error("a result shares memory with arguments")
	}
}

// P45.2 and P45.3 at the limit of steps.
func TestLimits(t *testing.T) {
	c := compile(t, listText)
	m := api.Mem{Globals: []int{0, 0}}
	s := start(t, c, m, api.MaxFuel, []api.Call{call("loop")}, []api.Call{call("add", 1)})
	if got, err := threads.Finish(c, s); err != api.ErrLimit || !isZero(got) {
		t.Error(err)
	}
	schedule := make([]int, api.MaxSteps)
	if got, n, err := threads.Run(c, s, append(schedule, 0)); n != 0 || err != api.ErrFull || !isZero(got) {
		t.Error(n, err)
	}
	last, n, err := threads.Run(c, s, schedule)
	if n != api.MaxSteps || err != api.OK || last.Step != api.MaxSteps || last.Mem.Globals[1] != api.MaxSteps/2 {
		t.Fatal(n, err)
	}
	if got, err := threads.Step(c, last, 0); err != api.ErrLimit || !isZero(got) {
		t.Error(err)
	}
	if a, err := threads.Next(c, last, 0); err != api.OK || a != (api.Access{Kind: api.Read, Field: 1}) {
		t.Error(a, err)
	}
	if got, n, err := threads.Run(c, last, []int{0}); n != 0 || err != api.OK || !same(got, last) {
		t.Error(n, err)
	}
	if _, err := threads.Finish(c, last); err != api.ErrLimit {
		t.Error(err)
	}
	refused(t, c, last, 2, api.ErrRange)
	// What is refused ends a run.
	for _, l := range [][]int{{1, 1, 1, 1}, {1, 1, -1, 0}, {1, 1, 2}, {1, 1, 1 << 40}} {
		if got, n, err := threads.Run(c, s, l); n != 2 || err != api.OK || got.Step != 2 {
			t.Error(l, n, err)
		}
	}
	s = start(t, c, m, api.MaxFuel, []api.Call{call("many")}, []api.Call{call("push", 1)})
	for _, thread := range []int{0, 1} {
		s, n, _ = threads.Run(c, s, slices.Repeat([]int{thread}, 2*api.MaxNodes+5))
	}
	if a, err := threads.Next(c, start(t, c, s.Mem, 5, []api.Call{call("push", 1)}), 0); len(s.Mem.Nodes) != api.MaxNodes || a != (api.Access{}) || err != api.OK {
		t.Error(len(s.Mem.Nodes), a, err)
	}
	if s.Results[0][0].Fault != api.ErrMemory || s.Results[1][0] != (api.Outcome{Fault: api.ErrMemory}) {
		t.Error(s.Results)
	}
}

func TestDone(t *testing.T) {
	frames := []api.Machine{{Frames: []api.Frame{{}}}}
	for i, x := range []struct {
		s    api.Threads
		want bool
	}{{api.Threads{}, true}, {api.Threads{Running: frames}, false}, {api.Threads{Calls: [][]api.Call{nil, {{}}}}, false}, {api.Threads{Calls: [][]api.Call{nil, {}}, Running: make([]api.Machine, 9), Step: -1}, true}} {
		if threads.Done(x.s) != x.want {
			t.Error(i)
		}
	}
}

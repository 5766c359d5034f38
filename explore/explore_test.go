package explore_test

import (
	"reflect"
	"slices"
	"testing"

	"heartwood/api"
	"heartwood/bytecode"
	"heartwood/explore"
	"heartwood/invariant"
	"heartwood/parser"
	"heartwood/threads"
)

// numbers yields numbers by a fixed rule.
type numbers int

func (n *numbers) below(limit int) int {
	*n = *n * 48271 % 2147483647
	return int(*n) % limit
}

func compile(t *testing.T, s string) (api.Desc, api.Code) {
	t.Helper()
	d, place, err := parser.Parse(s)
	if err != api.OK {
		t.Fatal(s, place, err)
	}
	c, err := bytecode.Compile(d)
	if err != api.OK {
		t.Fatal(err)
	}
	return d, c
}

func call(proc string, args ...int) api.Call { return api.Call{Proc: proc, Args: args} }

const mixedText = `desc mixed {
type N { val int; next N }
var a int
var b int
var head N
proc add() { a = a + 1; }
proc addb() { b = b + a; }
proc seta(n int) { a = n; }
proc geta() int { return a; }
proc both() { a = 1; b = 2; }
proc push() { local x N; x = new N; x.next = head; head = x; }
proc pop() { head = head.next; }
proc none() int { return 3; }
proc wait() { while a < 1 { } b = 7; }
proc inner(x N) int { return x.val; }
invariant small = a <= 1
invariant equal = a == 0 or b == 0 or a == b
invariant value(N) = this.val < 5
}`

func start(t *testing.T, c api.Code, m api.Mem, fuel int, calls ...[]api.Call) api.Threads {
	t.Helper()
	s, err := threads.New(c, m, calls, fuel)
	if err != api.OK {
		t.Fatal(err)
	}
	return s
}

// plain returns a value in which no slice is nil, so that states can be compared by reflect.
func plain(v reflect.Value) reflect.Value {
	r := reflect.New(v.Type()).Elem()
	switch v.Kind() {
	case reflect.Slice:
		r = reflect.MakeSlice(v.Type(), v.Len(), v.Len())
		for i := range v.Len() {
			r.Index(i).Set(plain(v.Index(i)))
		}
	case reflect.Struct:
		for i := range v.NumField() {
			r.Field(i).Set(plain(v.Field(i)))
		}
	default:
		r.Set(v)
	}
	return r
}

func same(a, b api.Threads) bool {
	return reflect.DeepEqual(plain(reflect.ValueOf(a)).Interface(), plain(reflect.ValueOf(b)).Interface())
}

// sameWork compares states but for Begins, Ends, and Step.
func sameWork(a, b api.Threads) bool {
	a.Begins, a.Ends, a.Step = nil, nil, 0
	b.Begins, b.Ends, b.Step = nil, nil, 0
	return same(a, b)
}

// schedules finds all schedules by steps of layer 45.
func schedules(c api.Code, s api.Threads, path []int, visit func([]int, api.Threads)) {
	l, _ := threads.Enabled(c, s)
	if len(l) == 0 {
		visit(path, s)
	}
	for _, thread := range l {
		next, _ := threads.Step(c, s, thread)
		schedules(c, next, append(slices.Clone(path), thread), visit)
	}
}

// switches counts the switches of a schedule by its definition.
func switches(c api.Code, s api.Threads, schedule []int) int {
	count := 0
	for i, thread := range schedule {
		if l, _ := threads.Enabled(c, s); i > 0 && schedule[i-1] != thread && slices.Contains(l, schedule[i-1]) {
			count++
		}
		s, _ = threads.Step(c, s, thread)
	}
	return count
}

// reduced finds the first schedules of the classes by their definition.
func reduced(c api.Code, s api.Threads, all [][]int) [][]int {
	class := make([]int, len(all))
	for i := range class {
		class[i] = i
	}
	for changed := true; changed; {
		changed = false
		for i, schedule := range all {
			for k := 0; k+1 < len(schedule); k++ {
				if schedule[k] == schedule[k+1] {
					continue
				}
				other := slices.Clone(schedule)
				other[k], other[k+1] = other[k+1], other[k]
				j, found := slices.BinarySearchFunc(all, other, slices.Compare[[]int])
				if !found || class[i] == class[j] {
					continue
				}
				x, _, _ := threads.Run(c, s, schedule[:k+2])
				y, _, _ := threads.Run(c, s, other[:k+2])
				if sameWork(x, y) {
					least := min(class[i], class[j])
					class[i], class[j], changed = least, least, true
				}
			}
		}
	}
	var firsts [][]int
	for i, k := range class {
		if i == k {
			firsts = append(firsts, all[i])
		}
	}
	return firsts
}

func sameLists(a, b [][]int) bool { return slices.EqualFunc(a, b, slices.Equal[[]int]) }

// checkAll compares what all functions find for a state.
func checkAll(t *testing.T, d api.Desc, c api.Code, s api.Threads) {
	t.Helper()
	before := plain(reflect.ValueOf(s)).Interface()
	var all [][]int
	var outcomes []api.Threads
	var broken []int
	var violation api.Violation
	found := false
	schedules(c, s, nil, func(schedule []int, last api.Threads) {
		all = append(all, schedule)
		if !slices.ContainsFunc(outcomes, func(x api.Threads) bool { return sameWork(x, last) }) {
			outcomes = append(outcomes, last)
		}
		if ok, v, _ := invariant.Check(d, last.Mem); !ok && !found {
			broken, violation, found = schedule, v, true
		}
	})
	n := len(all)
	for _, most := range []int{n, 10000} {
		if l, err := explore.Schedules(c, s, most); !sameLists(l, all) || err != api.OK {
			t.Fatal("Schedules", l, all, err)
		}
	}
	if l, err := explore.Outcomes(c, s, n); !slices.EqualFunc(l, outcomes, same) || err != api.OK {
		t.Fatal("Outcomes", l, outcomes, err)
	}
	firsts := reduced(c, s, all)
	if l, err := explore.Reduced(c, s, n); !sameLists(l, firsts) || err != api.OK {
		t.Fatal("Reduced", l, firsts, err)
	}
	checkFewest(t, c, s, all)
	schedule, v, err := explore.Broken(d, s, n)
	if isRunning(s) {
		if schedule != nil || v != (api.Violation{}) || err != api.ErrShape {
			t.Fatal("Broken", schedule, v, err)
		}
	} else if !found && (schedule != nil || v != (api.Violation{}) || err != api.ErrNone) || found && (!slices.Equal(schedule, broken) || v != violation || err != api.OK) {
		t.Fatal("Broken", schedule, v, err, broken, violation)
	}
	checkLimit(t, d, c, s, n-1)
	// The schedules of the reduced exploration lead to all outcomes.
	for _, x := range outcomes {
		if !slices.ContainsFunc(firsts, func(l []int) bool { y, _, _ := threads.Run(c, s, l); return sameWork(x, y) }) {
			t.Fatal("an outcome is missing")
		}
	}
	if !reflect.DeepEqual(before, plain(reflect.ValueOf(s)).Interface()) {
		t.Fatal("an argument was changed")
	}
}

func isRunning(s api.Threads) bool {
	return slices.ContainsFunc(s.Running, func(m api.Machine) bool { return len(m.Frames) > 0 })
}

func checkFewest(t *testing.T, c api.Code, s api.Threads, all [][]int) {
	t.Helper()
	for most := range 5 {
		var want [][]int
		for _, l := range all {
			if switches(c, s, l) <= most {
				want = append(want, l)
			}
		}
		if l, err := explore.Fewest(c, s, len(want), most); !sameLists(l, want) || err != api.OK {
			t.Fatal("Fewest", most, l, want, err)
		}
		if len(want) > 1 {
			if l, err := explore.Fewest(c, s, len(want)-1, most); l != nil || err != api.ErrLimit {
				t.Fatal("Fewest", most, l, err)
			}
		}
	}
	if l, err := explore.Fewest(c, s, len(all), 1<<62); !sameLists(l, all) || err != api.OK {
		t.Fatal("Fewest", l, err)
	}
}

// checkLimit asks for fewer schedules than there are.
func checkLimit(t *testing.T, d api.Desc, c api.Code, s api.Threads, most int) {
	t.Helper()
	if most < 1 {
		return
	}
	if l, err := explore.Schedules(c, s, most); l != nil || err != api.ErrLimit {
		t.Fatal(l, err)
	}
	if l, err := explore.Outcomes(c, s, most); l != nil || err != api.ErrLimit {
		t.Fatal(l, err)
	}
	if l, err := explore.Reduced(c, s, most); l != nil || err != api.ErrLimit {
		t.Fatal(l, err)
	}
	if l, v, err := explore.Broken(d, s, most); l != nil || v != (api.Violation{}) || err != api.ErrLimit && !(isRunning(s) && err == api.ErrShape) {
		t.Fatal(l, v, err)
	}
}

// P49.1 to P49.3, P49.5, and P49.6: random threads, also running ones.
func TestExplorations(t *testing.T) {
	d, c := compile(t, mixedText)
	m := api.Mem{Globals: []int{0, 0, 1}, Nodes: []api.Node{{F: []int{4, 0}}}}
	n := numbers(5)
	for range 60 {
		var calls [][]api.Call
		for range 1 + n.below(3) {
			var l []api.Call
			for range n.below(4 - len(calls)) {
				l = append(l, []api.Call{call("add"), call("addb"), call("seta", n.below(2)), call("geta"), call("both"), call("push"), call("pop"), call("none"), call("inner", 1)}[n.below(9)])
			}
			calls = append(calls, l)
		}
		s := start(t, c, m, n.below(12), calls...)
		for range n.below(8) {
			if l, _ := threads.Enabled(c, s); len(l) > 0 && n.below(2) == 0 {
				s, _ = threads.Step(c, s, l[n.below(len(l))])
			}
		}
		if l, err := explore.Schedules(c, s, 800); err == api.OK && len(l) > 0 {
			checkAll(t, d, c, s)
		}
	}
	checkAll(t, d, c, start(t, c, m, 20, []api.Call{call("wait")}, []api.Call{call("seta", 1)}))
	checkAll(t, d, c, start(t, c, m, 20, nil))
	checkAll(t, d, c, start(t, c, m, 20, nil, nil, nil))
}

func TestExample(t *testing.T) {
	_, c := compile(t, "desc d { var c int proc add() { c = c + 1; } }")
	s := start(t, c, api.Mem{Globals: []int{0}}, 10, []api.Call{call("add")}, []api.Call{call("add")})
	want := [][]int{{0, 0, 1, 1}, {0, 1, 0, 1}, {0, 1, 1, 0}, {1, 0, 0, 1}, {1, 0, 1, 0}, {1, 1, 0, 0}}
	if l, err := explore.Schedules(c, s, 6); !sameLists(l, want) || err != api.OK {
		t.Error(l, err)
	}
	if l, err := explore.Reduced(c, s, 6); !sameLists(l, [][]int{want[0], want[1], want[5]}) || err != api.OK {
		t.Error(l, err)
	}
	// A single thread has one schedule; without switches threads run one after the other.
	one := start(t, c, api.Mem{Globals: []int{0}}, 10, slices.Repeat([]api.Call{call("add")}, 20))
	if l, err := explore.Schedules(c, one, 1); len(l) != 1 || len(l[0]) != 40 || err != api.OK {
		t.Error(l, err)
	}
	if l, err := explore.Fewest(c, s, 2, 0); !sameLists(l, [][]int{want[0], want[5]}) || err != api.OK {
		t.Error(l, err)
	}
}

// Long schedules, whose states are saved now and then.
func TestLongSchedules(t *testing.T) {
	_, c := compile(t, mixedText)
	m := api.Mem{Globals: []int{0, 0, 0}}
	s := start(t, c, m, 10000, slices.Repeat([]api.Call{call("add")}, 150), []api.Call{call("addb")})
	all, err := explore.Schedules(c, s, 10000)
	if err != api.ErrLimit {
		t.Fatal(len(all), err)
	}
	s = start(t, c, m, 10000, slices.Repeat([]api.Call{call("add")}, 30), []api.Call{call("seta", 5), call("none")})
	all, err = explore.Schedules(c, s, 10000)
	// Two steps among 60 others.
	if len(all) != 62*61/2 || err != api.OK || !slices.IsSortedFunc(all, slices.Compare[[]int]) || len(slices.CompactFunc(all, slices.Equal[[]int])) != len(all) {
		t.Fatal(len(all), err)
	}
	for i, l := range all {
		if len(l) != 62 {
			t.Fatal(l)
		}
		if i%50 == 0 {
			if last, n, err := threads.Run(c, s, l); n != 62 || err != api.OK || !threads.Done(last) {
				t.Fatal(n, err)
			}
		}
	}
	outcomes, err := explore.Outcomes(c, s, 10000)
	if err != api.OK || len(outcomes) != 31 {
		t.Error(len(outcomes), err)
	}
	classes, err := explore.Reduced(c, s, 10000)
	if err != api.OK || len(classes) < 31 || len(classes) > 100 {
		t.Error(len(classes), err)
	}
}

// A schedule that does not end, and one that ends with the last step that there may be.
func TestEndless(t *testing.T) {
	d, c := compile(t, "desc d { var a int proc wait() { while a < 1 { } } proc none() { } proc go() { a = 1; } }")
	m := api.Mem{Globals: []int{0}}
	s := start(t, c, m, api.MaxFuel, []api.Call{call("wait")}, []api.Call{call("go")})
	checkLimit(t, d, c, s, 10000)
	if l, err := explore.Fewest(c, s, 10000, 0); l != nil || err != api.ErrLimit {
		t.Error(len(l), err)
	}
	s = start(t, c, m, 10, []api.Call{call("none"), call("none")})
	s.Step = api.MaxSteps - 2
	if l, err := explore.Schedules(c, s, 1); !sameLists(l, [][]int{{0, 0}}) || err != api.OK {
		t.Error(l, err)
	}
	s.Step++
	checkLimit(t, d, c, s, 5)
}

// P49.4: all pairs of some accesses.
func TestIndependent(t *testing.T) {
	var all []api.Access
	for kind := range 6 {
		for node := range 3 {
			for field := range 2 {
				all = append(all, api.Access{Kind: kind, Node: node, Field: field})
			}
		}
	}
	for _, a := range all {
		for _, b := range all {
			allocs := 0
			for _, x := range []api.Access{a, b} {
				if x.Kind == api.Alloc {
					allocs++
				}
			}
			want := allocs == 1 || allocs == 0 && (a.Node != b.Node || a.Field != b.Field || a.Kind == api.Read && b.Kind == api.Read)
			if explore.Independent(a, b) != want {
				t.Error(a, b, want)
			}
		}
	}
}

func TestErrors(t *testing.T) {
	d, c := compile(t, mixedText)
	m := api.Mem{Globals: []int{0, 0, 0}}
	good := start(t, c, m, 10, []api.Call{call("add")})
	invalid := good
	invalid.Step = -1
	unsound := api.Code{Funcs: []api.Func{{Name: "p", Code: []api.Instr{{Op: api.IPop}}}}}
	for i, x := range []struct {
		c              api.Code
		s              api.Threads
		most, switches int
		want, fewest   api.Errno
	}{
		{unsound, good, 0, -1, api.ErrArg, api.ErrArg}, {c, invalid, 0, -1, api.ErrArg, api.ErrArg}, {c, api.Threads{}, 1, 1, api.ErrArg, api.ErrArg},
		{c, good, 0, 0, api.ErrRange, api.ErrRange}, {c, good, -1, 0, api.ErrRange, api.ErrRange}, {c, good, 10001, 0, api.ErrRange, api.ErrRange}, {c, good, 1, -1, api.OK, api.ErrRange}, {c, good, 10000, 0, api.OK, api.OK},
	} {
		if l, err := explore.Schedules(x.c, x.s, x.most); err != x.want || (l == nil) != (err != api.OK) {
			t.Error(i, l, err)
		}
		if l, err := explore.Outcomes(x.c, x.s, x.most); err != x.want || (l == nil) != (err != api.OK) {
			t.Error(i, l, err)
		}
		if l, err := explore.Reduced(x.c, x.s, x.most); err != x.want || (l == nil) != (err != api.OK) {
			t.Error(i, l, err)
		}
		if l, err := explore.Fewest(x.c, x.s, x.most, x.switches); err != x.fewest || (l == nil) != (err != api.OK) {
			t.Error(i, l, err)
		}
	}
	bad := d
	bad.Procs = slices.Clone(d.Procs)
	bad.Procs[0].Body = []api.Stmt{{Op: api.SReturn, E: []api.Expr{{Op: api.XBool}}}}
	typed := start(t, c, api.Mem{Globals: []int{0, 0, 5}}, 10, nil)
	wrong := start(t, c, m, 10, []api.Call{call("add")}, []api.Call{call("inner", 1)})
	running, _ := threads.Step(c, good, 0)
	for i, x := range []struct {
		d    api.Desc
		s    api.Threads
		most int
		want api.Errno
	}{
		{api.Desc{}, good, 0, api.ErrArg}, {bad, good, 0, api.ErrArg}, {d, typed, 0, api.ErrArg}, {d, wrong, 0, api.ErrArg}, {d, invalid, 0, api.ErrArg}, {d, running, 0, api.ErrRange}, {d, running, 1, api.ErrShape}, {d, good, 1, api.ErrNone},
	} {
		if l, v, err := explore.Broken(x.d, x.s, x.most); l != nil || v != (api.Violation{}) || err != x.want {
			t.Error(i, l, v, err)
		}
	}
}

package linearizable_test

import (
	"slices"
	"testing"

	"heartwood/api"
	"heartwood/linearizable"
	"heartwood/model"
)

// numbers yields numbers by a fixed rule.
type numbers int

func (n *numbers) below(limit int) int {
	*n = *n * 48271 % 2147483647
	return int(*n) % limit
}

func op(code int, args ...int) api.Op { return api.Op{Code: code, Args: args} }

func event(thread, begin, end int, o api.Op, r api.Res) api.Event {
	return api.Event{Thread: thread, Op: o, Res: r, Begin: begin, End: end}
}

func precedes(a, b api.Event) bool { return a.End != -1 && a.End < b.Begin }

func sameRes(a, b api.Res) bool {
	return a.Err == b.Err && a.N == b.N && slices.Equal(a.L, b.L)
}

// linearization finds one by trying all orders.
func linearization(s api.State, l []api.Event, used []int) []int {
	if !slices.ContainsFunc(l, func(e api.Event) bool { return e.End != -1 }) || allComplete(l, used) {
		return used
	}
	for i, e := range l {
		if slices.Contains(used, i) {
			continue
		}
		ready := true
		for k, x := range l {
			ready = ready && (!precedes(x, e) || slices.Contains(used, k))
		}
		next, r, _ := model.Apply(s, e.Op)
		if !ready || e.End != -1 && !sameRes(r, e.Res) {
			continue
		}
		if found := linearization(next, l, append(slices.Clone(used), i)); found != nil {
			return found
		}
	}
	return nil
}

func allComplete(l []api.Event, used []int) bool {
	for i, e := range l {
		if e.End != -1 && !slices.Contains(used, i) {
			return false
		}
	}
	return true
}

func isLinearizable(s api.State, l []api.Event) bool {
	return linearization(s, l, []int{}) != nil
}

// randomOp returns an operation of a kind with few arguments.
func (n *numbers) op(kind int) api.Op {
	for {
		o := api.Op{Code: 1 + n.below(8)}
		for range n.below(4) {
			o.Args = append(o.Args, n.below(3))
		}
		if model.ValidOp(kind, o) {
			return o
		}
	}
}

// history returns a random history of an execution, some results of which may be wrong.
func (n *numbers) history(s api.State, size int) []api.Event {
	var l []api.Event
	free := [4]int{} // when each thread may begin again
	var done []bool  // which threads go on
	done = append(done, true, true, true, true)
	now := 0
	for range size {
		thread := n.below(4)
		if !done[thread] {
			continue
		}
		o := n.op(s.Kind)
		next, r, _ := model.Apply(s, o)
		now += 1 + n.below(3)
		begin := max(free[thread], now-n.below(6))
		e := event(thread, begin, max(begin, now)+n.below(5), o, r)
		s = next
		switch n.below(8) {
		case 0:
			e.End, e.Res, done[thread] = -1, api.Res{}, false
		case 1:
			e.Res.N++
		}
		free[thread] = e.End + 1
		l = append(l, e)
	}
	return l
}

func state(t *testing.T, n *numbers, kind int) api.State {
	t.Helper()
	s, _ := model.New(kind)
	for range 4 {
		s, _, _ = model.Apply(s, n.op(kind))
	}
	return s
}

// checkHistory checks what all functions say of a history; it reports whether this is linearizable.
func checkHistory(t *testing.T, s api.State, l []api.Event) bool {
	t.Helper()
	if !linearizable.Valid(l) {
		t.Fatal("not valid", l)
	}
	want := isLinearizable(s, l)
	found, order, err := linearizable.Check(s, l, 14)
	if found != want || err != api.OK || !found && order != nil {
		t.Fatal(s, l, found, order, err, want)
	}
	core, err := linearizable.Minimal(s, l, 14)
	if found {
		if ok, at, err := linearizable.Witness(s, l, order); !ok || at != -1 || err != api.OK {
			t.Fatal(s, l, order, ok, at, err)
		}
		if core != nil || err != api.ErrNone {
			t.Fatal(core, err)
		}
		return true
	}
	if !slices.Equal(core, coreOf(s, l)) || err != api.OK {
		t.Fatal(s, l, core, err, coreOf(s, l))
	}
	for i := range core {
		rest := slices.Delete(slices.Clone(core), i, i+1)
		if found, _, _ := linearizable.Check(s, chosen(l, rest), 14); !found {
			t.Fatal("a core is not minimal", l, core)
		}
	}
	return false
}

func chosen(l []api.Event, indices []int) []api.Event {
	var r []api.Event
	for _, i := range indices {
		r = append(r, l[i])
	}
	return r
}

// coreOf finds the core by its definition.
func coreOf(s api.State, l []api.Event) []int {
	var core []int
	for i := range l {
		core = append(core, i)
	}
	for {
		before := len(core)
		for i := len(core) - 1; i >= 0; i-- {
			if rest := slices.Delete(slices.Clone(core), i, i+1); !isLinearizable(s, chosen(l, rest)) {
				core = rest
			}
		}
		if len(core) == before {
			return core
		}
	}
}

// P47.1, P47.2, P47.4, and P47.5: random histories of all kinds.
func TestHistories(t *testing.T) {
	good, bad := 0, 0
	for kind := api.Dict; kind <= api.Text; kind++ {
		n := numbers(kind)
		for round := range 250 {
			s := state(t, &n, kind)
			l := n.history(s, n.below(7))
			checkPairs(t, l)
			if !checkHistory(t, s, l) {
				bad++
				continue
			}
			good++
			if round%2 == 0 && len(l) > 0 {
				checkLonger(t, s, l, n.below(len(l)))
			}
		}
	}
	if good < 200 || bad < 200 {
		t.Error(good, bad)
	}
}

// checkLonger makes a complete event longer, which keeps a history linearizable.
func checkLonger(t *testing.T, s api.State, l []api.Event, i int) {
	t.Helper()
	longer := slices.Clone(l)
	if longer[i].End == -1 {
		return
	}
	longer[i].Begin = max(0, longer[i].Begin-3)
	longer[i].End += 3
	if !linearizable.Valid(longer) {
		return
	}
	if found, _, err := linearizable.Check(s, longer, 14); !found || err != api.OK {
		t.Fatal(s, l, longer, err)
	}
}

// checkPairs compares Precedes and Sequential with their definitions.
func checkPairs(t *testing.T, l []api.Event) {
	t.Helper()
	var want [][2]int
	sequential := true
	for i, a := range l {
		for j, b := range l {
			if i != j && !precedes(a, b) && !precedes(b, a) {
				sequential = false
			}
			if precedes(a, b) && !slices.ContainsFunc(l, func(e api.Event) bool { return precedes(a, e) && precedes(e, b) }) {
				want = append(want, [2]int{i, j})
			}
		}
	}
	if got, err := linearizable.Precedes(l); !slices.Equal(got, want) || err != api.OK {
		t.Fatal(l, got, err, want)
	}
	if got, err := linearizable.Sequential(l); got != sequential || err != api.OK {
		t.Fatal(l, got, err, sequential)
	}
}

// A sequential history is linearizable exactly if its results are those of the model.
func TestSequential(t *testing.T) {
	n := numbers(6)
	for round := range 300 {
		kind := 1 + round%6
		first := state(t, &n, kind)
		s := first
		var l []api.Event
		right := true
		for i := range 10 {
			o := n.op(kind)
			next, r, _ := model.Apply(s, o)
			s = next
			if n.below(15) == 0 {
				r.Err, right = r.Err+1, false
			}
			l = append(l, event(n.below(8), 3*i, 3*i+n.below(3), o, r))
		}
		if is, err := linearizable.Sequential(l); !is || err != api.OK {
			t.Fatal(is, err)
		}
		if found, order, err := linearizable.Check(first, l, 14); found != right || err != api.OK || right && !slices.IsSorted(order) {
			t.Fatal(l, found, order, err, right)
		}
	}
}

// P47.3: all lists of some indices.
func TestWitness(t *testing.T) {
	n := numbers(3)
	for range 60 {
		s := state(t, &n, api.Dict)
		l := n.history(s, 4)
		var visit func(order []int)
		visit = func(order []int) {
			checkWitness(t, s, l, order)
			for i := range l {
				if !slices.Contains(order, i) {
					visit(append(slices.Clone(order), i))
				}
			}
		}
		visit(nil)
	}
}

func checkWitness(t *testing.T, first api.State, l []api.Event, order []int) {
	t.Helper()
	s := first
	want := -1
	for at, i := range order {
		next, r, _ := model.Apply(s, l[i].Op)
		s = next
		bad := l[i].End != -1 && !sameRes(r, l[i].Res)
		for k, e := range l {
			bad = bad || precedes(e, l[i]) && !slices.Contains(order[:at], k)
		}
		if bad {
			want = at
			break
		}
	}
	if want < 0 && !allComplete(l, order) {
		want = len(order)
	}
	if ok, at, err := linearizable.Witness(first, l, order); ok != (want == -1) || at != want || err != api.OK {
		t.Fatal(l, order, ok, at, err, want)
	}
}

func TestExample(t *testing.T) {
	s, _ := model.New(api.Dict)
	l := []api.Event{event(0, 0, 3, op(api.DictPut, 1, 5), api.Res{}), event(1, 2, 4, op(api.DictGet, 1), api.Res{Err: api.ErrNone})}
	if found, order, err := linearizable.Check(s, l, 2); !found || !slices.Equal(order, []int{1, 0}) || err != api.OK {
		t.Error(found, order, err)
	}
	l[1].Begin = 4
	if found, order, err := linearizable.Check(s, l, 2); found || order != nil || err != api.OK {
		t.Error(found, order, err)
	}
	if core, err := linearizable.Minimal(s, l, 2); !slices.Equal(core, []int{0, 1}) || err != api.OK {
		t.Error(core, err)
	}
	// An update that changes nothing at once may have to wait, and a pending one may have been seen.
	s, _, _ = model.Apply(s, op(api.DictPut, 1, 5))
	l = []api.Event{event(0, 0, 9, op(api.DictPut, 1, 5), api.Res{N: 1}), event(1, 0, 9, op(api.DictPut, 1, 7), api.Res{N: 1}), event(2, 10, 11, op(api.DictGet, 1), api.Res{N: 5})}
	if found, order, err := linearizable.Check(s, l, 14); !found || !slices.Equal(order, []int{1, 0, 2}) || err != api.OK {
		t.Error(found, order, err)
	}
	l = []api.Event{event(0, 0, -1, op(api.DictPut, 1, 6), api.Res{}), event(1, 3, 5, op(api.DictGet, 1), api.Res{N: 5}), event(1, 7, 8, op(api.DictGet, 1), api.Res{N: 6})}
	if found, order, err := linearizable.Check(s, l, 14); !found || !slices.Equal(order, []int{1, 0, 2}) || err != api.OK {
		t.Error(found, order, err)
	}
}

// As many events as there may be, all at the same time.
func TestMany(t *testing.T) {
	s, _ := model.New(api.Dict)
	var l []api.Event
	for i := range 14 {
		o, r := op(api.DictPut, i/2%4, i%3), api.Res{N: 1}
		if i%2 == 0 {
			o, r = op(api.DictGet, i/2%4), api.Res{N: i % 3}
		}
		l = append(l, event(i%8, i/8*10, i/8*10+5, o, r))
	}
	if found, _, err := linearizable.Check(s, l, 14); found || err != api.OK {
		t.Error(found, err)
	}
	for i := range l {
		l[i].Op, l[i].Res = op(api.DictPut, i, 1), api.Res{}
	}
	l[13].Op, l[13].Res = op(api.DictSize), api.Res{N: 13}
	found, order, err := linearizable.Check(s, l, 14)
	if !found || len(order) != 14 || order[13] != 13 || err != api.OK {
		t.Error(found, order, err)
	}
	l[13].Res.N = 7
	if found, _, err := linearizable.Check(s, l, 14); found || err != api.OK {
		t.Error(found, err)
	}
	if core, err := linearizable.Minimal(s, l, 14); len(core) == 0 || err != api.OK {
		t.Error(core, err)
	}
}

func TestInvalid(t *testing.T) {
	get := op(api.DictGet, 1)
	good := event(0, 1, 2, get, api.Res{})
	bad := [][]api.Event{
		{event(-1, 1, 2, get, api.Res{})}, {event(api.MaxThreads, 1, 2, get, api.Res{})}, {event(0, -1, 2, get, api.Res{})}, {event(0, api.MaxSteps+1, api.MaxSteps+1, get, api.Res{})}, {event(0, 1, 0, get, api.Res{})}, {event(0, 1, api.MaxSteps+1, get, api.Res{})}, {event(0, 1, -2, get, api.Res{})},
		{event(0, 1, -1, get, api.Res{N: 1})}, {event(0, 1, -1, get, api.Res{Err: api.ErrNone})}, {event(0, 1, -1, get, api.Res{L: []int{0}})}, {event(0, 1, 2, op(99), api.Res{})}, {event(0, 1, 2, op(7, 2, 3, 4, 5, 6), api.Res{})},
		{good, event(0, 2, 3, get, api.Res{})}, {event(0, 5, 6, get, api.Res{}), good}, {event(0, 1, -1, get, api.Res{}), event(0, 3, 4, get, api.Res{})}, {good, event(1, 1, 2, op(api.HeapDeleteMin), api.Res{}), event(2, 1, 2, op(api.RangeCount, 1, 1, 1, 1), api.Res{})},
		slices.Repeat([]api.Event{event(0, 0, 0, get, api.Res{})}, api.MaxList+1),
	}
	s, _ := model.New(api.Dict)
	for i, l := range bad {
		if linearizable.Valid(l) {
			t.Error(i)
		}
		checkErrors(t, s, l, api.ErrArg)
		if is, err := linearizable.Sequential(l); is || err != api.ErrArg {
			t.Error(i, is, err)
		}
		if p, err := linearizable.Precedes(l); p != nil || err != api.ErrArg {
			t.Error(i, p, err)
		}
	}
	other, _ := model.New(api.Range)
	checkErrors(t, other, []api.Event{good}, api.ErrArg)
	checkErrors(t, api.State{}, nil, api.ErrArg)
	checkErrors(t, api.State{Kind: api.Heap, Rows: [][]int{{2}, {1}}}, nil, api.ErrArg)
	for _, e := range []api.Event{event(api.MaxThreads-1, api.MaxSteps, api.MaxSteps, get, api.Res{Err: api.ErrNone}), event(0, api.MaxSteps, -1, get, api.Res{}), event(0, 0, 0, get, api.Res{Err: api.ErrNone})} {
		if !linearizable.Valid([]api.Event{e}) || !checkHistory(t, s, []api.Event{e}) {
			t.Error(e)
		}
	}
	// An operation that two kinds have.
	size := []api.Event{event(0, 1, 2, op(api.HeapSize), api.Res{})}
	heap, _ := model.New(api.Heap)
	if !linearizable.Valid(size) || !checkHistory(t, heap, size) || !checkHistory(t, s, nil) {
		t.Error("kinds")
	}
	var long []api.Event
	for i := range api.MaxList {
		long = append(long, event(i%8, i/8*2, i/8*2+1, op(api.DictGet, i), api.Res{Err: api.ErrNone}))
	}
	checkPairs(t, long[:200])
	if p, err := linearizable.Precedes(long); len(p) != 124*64 || err != api.OK {
		t.Error(len(p), err)
	}
	order := make([]int, len(long))
	for i := range order {
		order[i] = i
	}
	if ok, at, err := linearizable.Witness(s, long, order); !ok || at != -1 || err != api.OK {
		t.Error(ok, at, err)
	}
}

// checkErrors asks functions with a state, also with other wrong arguments.
func checkErrors(t *testing.T, s api.State, l []api.Event, want api.Errno) {
	t.Helper()
	for _, most := range []int{0, 14} {
		if found, order, err := linearizable.Check(s, l, most); found || order != nil || err != want {
			t.Error(found, order, err)
		}
		if core, err := linearizable.Minimal(s, l, most); core != nil || err != want {
			t.Error(core, err)
		}
	}
	for _, order := range [][]int{nil, {-1}, {0, 0}} {
		if ok, at, err := linearizable.Witness(s, l, order); ok || at != 0 || err != want {
			t.Error(ok, at, err)
		}
	}
}

func TestErrors(t *testing.T) {
	s, _ := model.New(api.Dict)
	l := []api.Event{event(0, 0, 3, op(api.DictGet, 1), api.Res{}), event(1, 2, 4, op(api.DictGet, 1), api.Res{})}
	for most, want := range map[int]api.Errno{0: api.ErrRange, -1: api.ErrRange, 15: api.ErrRange, 1 << 62: api.ErrRange, 1: api.ErrLimit, 2: api.OK, 14: api.OK} {
		if found, order, err := linearizable.Check(s, l, most); found || order != nil || err != want {
			t.Error(most, found, err)
		}
		if core, err := linearizable.Minimal(s, l, most); err != want || (core == nil) != (want != api.OK) {
			t.Error(most, core, err)
		}
	}
	for _, x := range []struct {
		order []int
		want  api.Errno
	}{{[]int{0, 2}, api.ErrRange}, {[]int{0, 0, -1}, api.ErrRange}, {[]int{0, 0}, api.ErrTwice}, {[]int{1 << 62}, api.ErrRange}} {
		if ok, at, err := linearizable.Witness(s, l, x.order); ok || at != 0 || err != x.want {
			t.Error(x, ok, at, err)
		}
	}
}

package amortized_test

import (
	"slices"
	"strconv"
	"strings"
	"testing"

	"heartwood/amortized"
	"heartwood/api"
	"heartwood/eval"
	"heartwood/heap"
	"heartwood/library"
	"heartwood/model"
	"heartwood/parser"
)

func parse(t *testing.T, s string) api.Desc {
	t.Helper()
	d, place, err := parser.Parse(s)
	if err != api.OK {
		t.Fatal(s, place, err)
	}
	return d
}

func node(typ int, f ...int) api.Node { return api.Node{Type: typ, F: f} }

func mem(globals []int, nodes ...api.Node) api.Mem { return api.Mem{Globals: globals, Nodes: nodes} }

func call(proc string, args ...int) api.Call { return api.Call{Proc: proc, Args: args} }

func same(a, b api.Mem) bool {
	return slices.Equal(a.Globals, b.Globals) && slices.EqualFunc(a.Nodes, b.Nodes, func(x, y api.Node) bool { return x.Type == y.Type && slices.Equal(x.F, y.F) })
}

func isZero(m api.Mem) bool { return len(m.Globals) == 0 && len(m.Nodes) == 0 }

const stackHead = `desc stack {
type T { k int; n T; u U }
type U { w int }
var r T
var c int
var k int
proc push(k int) int {
	local x T;
	x = new T;
	x.k = k;
	x.n = r;
	r = x;
	c = c + 1;
	return c;
}
proc clear() {
	while r != nil {
		r = r.n;
	}
}
proc fail(n int, b bool) {
	r.k = n;
	c = c / 0;
}
proc touch() {
	r.k = r.k + r.k;
}
proc top() T {
	return r;
}
proc of(x T) int {
	return x.k;
}
measure length(T) nil 0 = 1 + length(this.n)
measure bad(T) nil 0 = 1 / (this.k - 3)
`

func stack(t *testing.T, rest string) api.Desc { return parse(t, stackHead+rest+"}") }

func list(keys ...int) api.Mem {
	m := mem([]int{min(len(keys), 1), len(keys), 50})
	for i, k := range keys {
		m.Nodes = append(m.Nodes, node(0, k, (i+2)%(len(keys)+1), 0))
	}
	return m
}

func wrongDescs(t *testing.T) []api.Desc {
	return []api.Desc{{}, parse(t, "desc d { proc p() { x = 1; } }"), parse(t, "desc d { potential = true }")}
}

func wrongMems() []api.Mem {
	return []api.Mem{{}, mem([]int{1, 0, 0}), mem([]int{0, 0, 0}, node(0, 1))}
}

// P23.1

func wantPotential(t *testing.T, rest string, m api.Mem, want int, err api.Errno) {
	t.Helper()
	if n, e := amortized.Potential(stack(t, rest), m); n != want || e != err {
		t.Errorf("%s: %d %v, want %d %v", rest, n, e, want, err)
	}
}

func TestPotential(t *testing.T) {
	m := list(5, 7, 9)
	wantPotential(t, "", m, 0, api.OK)
	wantPotential(t, "potential T = 2", m, 6, api.OK)
	wantPotential(t, "potential = 2", m, 2, api.OK)
	wantPotential(t, "potential T = this.k potential = c * 100 potential T = length(this)", m, 21+300+6, api.OK)
	wantPotential(t, "potential T = -length(this) potential U = 7", m, -6, api.OK)
	wantPotential(t, "potential T = this.k", mem([]int{0, 0, 0}, m.Nodes...), 0, api.OK)
	m.Nodes[1].F[2] = 4
	m.Nodes = append(m.Nodes, node(1, 1000), node(1, 50))
	wantPotential(t, "potential U = this.w potential T = 1", m, 1003, api.OK)
	wantPotential(t, "potential T = bad(this)", list(5, 3), 0, api.ErrZero)
	wantPotential(t, "potential T = this.n.k", list(5, 3), 0, api.ErrNil)
	loop := list(5, 6)
	loop.Nodes[1].F[1] = 1
	wantPotential(t, "potential T = length(this)", loop, 0, api.ErrCycle)
	wantPotential(t, "potential T = this.k", loop, 11, api.OK)
	// A sum that is too great ends it; so does the first fault.
	big := list(api.MaxInt, 1, 3)
	wantPotential(t, "potential T = this.k", big, 0, api.ErrBig)
	wantPotential(t, "potential T = this.k", list(api.MaxInt, -5, 5), api.MaxInt, api.OK)
	wantPotential(t, "potential T = -this.k", list(api.MaxInt, 1), 0, api.ErrBig)
	wantPotential(t, "potential T = -this.k", list(api.MaxInt), -api.MaxInt, api.OK)
	wantPotential(t, "potential T = this.k + 0 * bad(this)", list(api.MaxInt, 1, 3), 0, api.ErrBig)
	wantPotential(t, "potential T = this.k + 0 * bad(this)", list(api.MaxInt, 3, 1), 0, api.ErrZero)
	wantPotential(t, "potential T = this.k * 2", list(1, api.MaxInt), 0, api.ErrBig)
	wantPotential(t, "potential = 1099511627776 potential = 1 potential = 1 / 0", list(), 0, api.ErrBig)
	wantPotential(t, "potential = 1099511627776 potential = -1 potential = 1 / 0", list(), 0, api.ErrZero)
}

// P23.2

func TestBound(t *testing.T) {
	d := stack(t, "bound push = k + c + length(r) bound clear = 2 * length(r) + k bound fail = if(b, n, bad(r))")
	want := func(c api.Call, want int, err api.Errno) {
		t.Helper()
		if n, e := amortized.Bound(d, list(5, 3, 1), c); n != want || e != err {
			t.Error(c, n, e, want, err)
		}
	}
	want(call("push", 10), 16, api.OK)
	want(call("push", api.MaxInt), 0, api.ErrBig)
	want(call("push", api.MaxInt-6), api.MaxInt, api.OK)
	want(call("push", -api.MaxInt), 6-api.MaxInt, api.OK)
	want(call("clear"), 56, api.OK)
	want(call("fail", 8, 1), 8, api.OK)
	want(call("fail", 8, 0), 0, api.OK)
	want(call("touch"), api.MaxInt, api.OK)
	if n, err := amortized.Bound(d, list(3), call("fail", 8, 0)); n != 0 || err != api.ErrZero {
		t.Error(n, err)
	}
	for _, c := range []api.Call{call("zz", 1), call(""), call("length", 1)} {
		want(c, 0, api.ErrName)
	}
	for _, c := range []api.Call{call("top"), call("of", 1), call("of"), call("top", 1)} {
		want(c, 0, api.ErrNone)
	}
	for _, c := range []api.Call{call("push"), call("push", 1, 2), call("clear", 1), call("fail", api.MaxInt+1)} {
		want(c, 0, api.ErrSize)
	}
	for _, c := range []api.Call{call("push", api.MaxInt+1), call("push", -api.MaxInt-1), call("fail", 1, 2), call("fail", 1, -1), call("fail", 1<<62, 0)} {
		want(c, 0, api.ErrType)
	}
	for _, bad := range wrongDescs(t) {
		if n, err := amortized.Bound(bad, api.Mem{}, call("zz")); n != 0 || err != api.ErrArg {
			t.Error(n, err)
		}
		if n, err := amortized.Potential(bad, api.Mem{}); n != 0 || err != api.ErrArg {
			t.Error(n, err)
		}
	}
	for _, m := range wrongMems() {
		if n, err := amortized.Bound(d, m, call("zz")); n != 0 || err != api.ErrArg {
			t.Error(n, err)
		}
		if n, err := amortized.Potential(d, m); n != 0 || err != api.ErrArg {
			t.Error(n, err)
		}
	}
}

// P23.3

func TestAudit(t *testing.T) {
	d := stack(t, "potential T = 3 potential = c bound push = 4 + k bound clear = 1")
	m := list(5)
	l, after, err := amortized.Audit(d, m, []api.Call{call("push", 9), call("fail", 7, 0), call("touch"), call("clear"), call("touch")}, 100)
	want := []api.Entry{{Actual: 3, Before: 4, After: 8, Bound: 13}, {Actual: 1, Before: 8, After: 8, Bound: api.MaxInt}, {Actual: 3, Before: 8, After: 8, Bound: api.MaxInt}, {Actual: 2, Before: 8, After: 2, Bound: 1}, {Actual: 0, Before: 2, After: 2, Bound: api.MaxInt}}
	if err != api.OK || !slices.Equal(l, want) || !same(after, mem([]int{0, 2, 50}, node(0, 5, 0, 0), node(0, 14, 1, 0))) || !same(m, list(5)) {
		t.Error(l, after, err)
	}
	l, after, err = amortized.Audit(d, m, nil, 0)
	if err != api.OK || len(l) != 0 || !same(after, m) {
		t.Error(l, after, err)
	}
	after.Globals[1], after.Nodes[0].F[0] = 99, 99
	if !same(m, list(5)) {
		t.Error("the result shares memory with the argument")
	}
	if l, _, err := amortized.Audit(d, m, []api.Call{call("clear")}, 2); err != api.OK || l[0] != (api.Entry{Actual: 1, Before: 4, After: 1, Bound: 1}) {
		t.Error(l, err)
	}
	fails := func(d api.Desc, m api.Mem, l []api.Call, fuel int, want api.Errno) {
		t.Helper()
		if r, after, err := amortized.Audit(d, m, l, fuel); err != want || len(r) != 0 || !isZero(after) {
			t.Error(r, after, err, want)
		}
	}
	many := slices.Repeat([]api.Call{call("zz")}, api.MaxOps+1)
	for _, bad := range wrongDescs(t) {
		fails(bad, api.Mem{}, many, -1, api.ErrArg)
	}
	for _, bad := range wrongMems() {
		fails(d, bad, many, -1, api.ErrArg)
	}
	fails(d, m, many, -1, api.ErrRange)
	fails(d, m, many, api.MaxFuel+1, api.ErrRange)
	fails(d, m, many, 5, api.ErrFull)
	fails(d, m, []api.Call{call("push", 1), call("zz"), call("of", 1)}, 5, api.ErrName)
	fails(d, m, []api.Call{call("push", 1), call("of", 1)}, 5, api.ErrNone)
	fails(d, m, []api.Call{call("clear"), call("push")}, 5, api.ErrSize)
	fails(d, m, []api.Call{call("push", 1<<50)}, 5, api.ErrType)
	// The errors of a call, then the potential before it, its bound, and the potential after it.
	both := stack(t, "potential T = 1 / (this.k - 3) + this.n.k * 0 bound push = k / 0")
	fails(both, list(3), []api.Call{call("push")}, 5, api.ErrSize)
	fails(both, list(3), []api.Call{call("push", 1)}, 5, api.ErrZero)
	fails(both, list(5), []api.Call{call("push", 1)}, 5, api.ErrNil)
	fails(both, list(), []api.Call{call("push", 1)}, 5, api.ErrZero)
	after3 := stack(t, "potential T = 1 / (this.k - 3)")
	fails(after3, list(), []api.Call{call("clear"), call("push", 3), call("zz")}, 50, api.ErrZero)
	fails(after3, list(), []api.Call{call("push", 4), call("zz")}, 50, api.ErrName)
	if l, _, err := amortized.Audit(d, list(), slices.Repeat([]api.Call{call("clear")}, api.MaxOps), 5); err != api.OK || len(l) != api.MaxOps {
		t.Error(len(l), err)
	}
}

// The chapter's example.
func TestEntryOfList(t *testing.T) {
	d, _ := library.Load("list")
	m, _ := heap.New(d)
	l, _, err := amortized.Audit(d, m, []api.Call{call("put", 2, 20), call("put", 1, 10), call("get", 2)}, 1000)
	if err != api.OK || l[2] != (api.Entry{Actual: 6, Bound: 8}) {
		t.Error(l, err)
	}
}

// P23.4

func wrongEntries() []api.Entry {
	return []api.Entry{{Actual: -1}, {Actual: api.MaxInt + 1}, {Before: api.MaxInt + 1}, {Before: -api.MaxInt - 1}, {After: api.MaxInt + 1}, {After: -api.MaxInt - 1}, {Bound: api.MaxInt + 1}, {Bound: -api.MaxInt - 1}}
}

func TestFirst(t *testing.T) {
	want := func(want int, l ...api.Entry) {
		t.Helper()
		if i, err := amortized.First(l); i != want || err != api.OK {
			t.Error(l, i, err)
		}
	}
	want(-1)
	want(-1, api.Entry{}, api.Entry{Actual: 5, Bound: 5}, api.Entry{Actual: 5, Before: 2, After: 1, Bound: 4}, api.Entry{Actual: api.MaxInt, After: api.MaxInt, Before: -api.MaxInt, Bound: api.MaxInt})
	want(0, api.Entry{Actual: 6, Bound: 5})
	want(1, api.Entry{}, api.Entry{After: 1}, api.Entry{Actual: 1})
	want(2, api.Entry{Bound: 3}, api.Entry{Actual: 3, Before: 3}, api.Entry{Actual: 0, Before: -api.MaxInt, After: api.MaxInt, Bound: api.MaxInt - 1})
	want(0, api.Entry{Bound: -1})
	want(-1, api.Entry{Before: 1, Bound: -1})
	for _, e := range wrongEntries() {
		if i, err := amortized.First([]api.Entry{{Actual: 1}, e}); i != 0 || err != api.ErrArg {
			t.Error(e, i, err)
		}
		if x, err := amortized.Total([]api.Entry{{}, e}, -1); x != (api.Entry{}) || err != api.ErrArg {
			t.Error(e, x, err)
		}
		if x, err := amortized.Total([]api.Entry{{}, e}, 1); x != (api.Entry{}) || err != api.ErrArg {
			t.Error(e, x, err)
		}
	}
}

func TestTotal(t *testing.T) {
	l := []api.Entry{{Actual: 3, Before: 5, After: 7, Bound: 10}, {Actual: 4, Before: 7, After: -2, Bound: -30}, {Actual: 5, Before: 1, After: 2, Bound: api.MaxInt}, {Actual: 6, Before: 9, After: 8, Bound: 1}}
	for n, want := range []api.Entry{{}, l[0], {Actual: 7, Before: 5, After: -2, Bound: -20}, {Actual: 12, Before: 5, After: 2, Bound: api.MaxInt}, {Actual: 18, Before: 5, After: 8, Bound: api.MaxInt}} {
		if x, err := amortized.Total(l, n); x != want || err != api.OK {
			t.Error(n, x, err)
		}
	}
	for _, n := range []int{-1, 5, 1 << 60} {
		if x, err := amortized.Total(l, n); x != (api.Entry{}) || err != api.ErrRange {
			t.Error(n, x, err)
		}
	}
	half := api.MaxInt / 2
	for i, c := range []struct {
		l    []api.Entry
		want api.Entry
		err  api.Errno
	}{
		{[]api.Entry{{Actual: half}, {Actual: half}}, api.Entry{Actual: api.MaxInt}, api.OK}, {[]api.Entry{{Actual: half}, {Actual: half + 1}}, api.Entry{}, api.ErrBig}, {[]api.Entry{{Bound: half + 1}, {Bound: half}}, api.Entry{}, api.ErrBig}, {[]api.Entry{{Bound: -half - 1}, {Bound: -half}}, api.Entry{}, api.ErrBig}, {[]api.Entry{{Bound: -half}, {Bound: -half}}, api.Entry{Bound: -api.MaxInt}, api.OK},
		{[]api.Entry{{Bound: half + 9}, {Bound: half + 9}, {Bound: api.MaxInt}}, api.Entry{Bound: api.MaxInt}, api.OK}, {[]api.Entry{{Bound: half + 9}, {Bound: half + 9}, {Bound: -18}}, api.Entry{Bound: api.MaxInt}, api.OK}, {[]api.Entry{{Actual: half, Bound: api.MaxInt}, {Actual: half + 1}}, api.Entry{}, api.ErrBig}, {[]api.Entry{{Actual: api.MaxInt, Bound: 5}}, api.Entry{Actual: api.MaxInt, Bound: 5}, api.OK},
	} {
		if x, err := amortized.Total(c.l, len(c.l)); x != c.want || err != c.err {
			t.Error(i, x, err)
		}
	}
}

// P23.5

func TestWorst(t *testing.T) {
	d := stack(t, "potential = 1 / 0")
	choices := []api.Call{call("touch"), call("push", 1), call("clear"), call("push", 2)}
	for n := range 6 {
		for _, m := range []api.Mem{list(), list(5, 7, 9)} {
			want, cost := brute(t, d, m, choices, n)
			got, sum, err := amortized.Worst(d, m, choices, n, 100)
			if err != api.OK || sum != cost || !slices.EqualFunc(got, want, func(a, b api.Call) bool { return a.Proc == b.Proc && slices.Equal(a.Args, b.Args) }) {
				t.Error(n, got, sum, err, want, cost)
			}
			if n > 1 {
				for _, c := range got {
					for i := range c.Args {
						c.Args[i] = 99
					}
				}
				if choices[1].Args[0] != 1 {
					t.Fatal("the result shares memory with the argument")
				}
			}
		}
	}
	fails := func(d api.Desc, m api.Mem, choices []api.Call, n, fuel int, want api.Errno) {
		t.Helper()
		if l, sum, err := amortized.Worst(d, m, choices, n, fuel); err != want || len(l) != 0 || sum != 0 {
			t.Error(l, sum, err, want)
		}
	}
	bad := []api.Call{call("push", 1), call("zz"), call("of", 1)}
	for _, x := range wrongDescs(t) {
		fails(x, api.Mem{}, nil, -1, -1, api.ErrArg)
	}
	for _, x := range wrongMems() {
		fails(d, x, nil, -1, -1, api.ErrArg)
	}
	fails(d, list(), bad, 2, -1, api.ErrRange)
	fails(d, list(), bad, 2, api.MaxFuel+1, api.ErrRange)
	fails(d, list(), nil, 2, 5, api.ErrRange)
	fails(d, list(), nil, 0, 5, api.ErrRange)
	fails(d, list(), slices.Repeat(bad, 22), 2, 5, api.ErrRange)
	fails(d, list(), bad, -1, 5, api.ErrRange)
	fails(d, list(), bad, 13, 5, api.ErrRange)
	fails(d, list(), bad, 12, 5, api.ErrName)
	fails(d, list(), []api.Call{call("push"), call("zz")}, 2, 5, api.ErrSize)
	fails(d, list(), []api.Call{call("of", 1), call("zz")}, 2, 5, api.ErrNone)
	fails(d, list(), []api.Call{call("push", 1<<50), call("zz")}, 0, 5, api.ErrType)
	fails(d, list(), choices[:2], 12+1, 5, api.ErrRange)
	fails(d, list(), choices, 7, 5, api.ErrLimit)
	fails(d, list(), slices.Repeat(choices[:1], 18), 3, 5, api.ErrLimit)
	if l, sum, err := amortized.Worst(d, list(), slices.Repeat(choices[2:3], 17), 3, 5); err != api.OK || len(l) != 3 || sum != 0 {
		t.Error(l, sum, err)
	}
	if l, _, err := amortized.Worst(d, list(), choices[1:2], 12, 5); err != api.OK || len(l) != 12 {
		t.Error(l, err)
	}
	for fuel, want := range map[int]int{0: 0, 1: 3, api.MaxFuel: 3} {
		if l, sum, err := amortized.Worst(d, list(1), choices[:1], 1, fuel); err != api.OK || len(l) != 1 || sum != want {
			t.Error(fuel, l, sum, err)
		}
	}
	if l, sum, err := amortized.Worst(d, list(1), slices.Repeat(choices[:1], 64), 2, 100); err != api.OK || len(l) != 2 || sum != 6 {
		t.Error(l, sum, err)
	}
}

// brute tries all sequences of choices, in the lexicographic order of their indices.
func brute(t *testing.T, d api.Desc, m api.Mem, choices []api.Call, n int) ([]api.Call, int) {
	t.Helper()
	var best []api.Call
	most := -1
	count := 1
	for range n {
		count *= len(choices)
	}
	for x := range count {
		var l []api.Call
		for range n {
			l = append([]api.Call{choices[x%len(choices)]}, l...)
			x /= len(choices)
		}
		outcomes, _, err := eval.Script(d, m, l, 100)
		if err != api.OK {
			t.Fatal(err)
		}
		sum := 0
		for _, o := range outcomes {
			sum += o.Cost.Nodes
		}
		if sum > most {
			best, most = l, sum
		}
	}
	return best, most
}

// numbers yields numbers by a fixed rule.
type numbers int

func (n *numbers) below(limit int) int {
	*n = *n * 48271 % 2147483647
	return int(*n) % limit
}

// calls returns random operations of a structure, as calls, with fewer than 150 elements at any time.
func calls(t *testing.T, n *numbers, name string, count, spread int) []api.Call {
	t.Helper()
	kind, _ := library.Kind(name)
	texts := map[int][]string{api.Dict: {"put . 1", "put . 2", "get .", "remove .", "floor .", "ceiling .", "rank .", "select ,", "size"}, api.Heap: {"insert .", "insert .", "min", "deletemin", "size"}, api.Seq: {"insert , .", "insert , .", "remove ,", "get ,", "set , 5", "size"}, api.Sets: {"make", "make", "union , ,", "union , ,", "same , ,", "size ,", "count"}}[kind]
	state, _ := model.New(kind)
	var l []api.Call
	for len(l) < count {
		size := len(slices.Concat(state.Rows...))
		if kind == api.Dict {
			size /= 2
		}
		text := texts[n.below(len(texts))]
		if size > 140 && strings.Contains("put insert make", strings.Fields(text)[0]) {
			continue
		}
		for strings.Contains(text, ".") {
			text = strings.Replace(text, ".", strconv.Itoa(n.below(spread)), 1)
		}
		for strings.Contains(text, ",") {
			text = strings.Replace(text, ",", strconv.Itoa(n.below(size+2)), 1)
		}
		o, _ := model.Parse(kind, text)
		c, err := library.Bind(name, o)
		if err != api.OK {
			continue
		}
		state, _, _ = model.Apply(state, o)
		l = append(l, c)
	}
	return l
}

// P23.6: the bounds of the library hold.
func TestBoundsOfTheLibrary(t *testing.T) {
	for _, name := range library.Names() {
		d, _ := library.Load(name)
		bounded := 0
		for seed, spread := range []int{8, 300, 100000} {
			n := numbers(seed*31 + len(name))
			start, _ := heap.New(d)
			ledger, _, err := amortized.Audit(d, start, calls(t, &n, name, 300, spread), api.MaxFuel)
			if err != api.OK {
				t.Fatal(name, err)
			}
			if i, err := amortized.First(ledger); i != -1 || err != api.OK {
				t.Fatal(name, i, ledger[max(i, 0)], err)
			}
			checkTotals(t, name, ledger)
			for _, e := range ledger {
				if e.Bound < api.MaxInt {
					bounded++
				}
			}
		}
		if bounded < 100 && len(d.Bounds) > 0 {
			t.Error(name, bounded)
		}
	}
}

// checkTotals: the sum of Actual is at most the sum of the bounds, and what the potential was, less what it is.
func checkTotals(t *testing.T, name string, ledger []api.Entry) {
	t.Helper()
	ledger = slices.DeleteFunc(slices.Clone(ledger), func(e api.Entry) bool { return e.Bound == api.MaxInt })
	for n := range ledger {
		x, err := amortized.Total(ledger, n)
		change := 0
		for _, e := range ledger[:n] {
			change += e.Before - e.After
		}
		if err != api.OK || x.Actual > x.Bound+change {
			t.Fatal(name, n, x, err)
		}
	}
}

// Ascending keys, the worst ones for trees that balance themselves, and the last ones asked again.
func TestBoundsOfExtremes(t *testing.T) {
	for _, name := range []string{"splay", "weightbalanced", "skewheap", "leftist", "list"} {
		d, _ := library.Load(name)
		kind, _ := library.Kind(name)
		for _, sign := range []int{1, -1} {
			var l []api.Call
			for i := range 149 {
				if kind == api.Dict {
					l = append(l, call("put", sign*i, 1))
				} else {
					l = append(l, call("insert", sign*i))
				}
			}
			for i := range 149 {
				if kind == api.Dict {
					l = append(l, call("get", sign*i), call("remove", sign*(i*74%149)))
				} else {
					l = append(l, call("deletemin"))
				}
			}
			start, _ := heap.New(d)
			ledger, _, err := amortized.Audit(d, start, l, api.MaxFuel)
			if err != api.OK {
				t.Fatal(name, err)
			}
			if i, err := amortized.First(ledger); i != -1 || err != api.OK {
				t.Fatal(name, i, err)
			}
		}
	}
}

package invariant_test

import (
	"slices"
	"testing"

	"heartwood/api"
	"heartwood/heap"
	"heartwood/invariant"
	"heartwood/parser"
)

func parse(t *testing.T, s string) api.Desc {
	t.Helper()
	d, place, err := parser.Parse(s)
	if err != api.OK {
		t.Fatal(s, place, err)
	}
	return d
}

func expr(t *testing.T, s string) api.Expr {
	t.Helper()
	e, place, err := parser.Expr(s)
	if err != api.OK {
		t.Fatal(s, place, err)
	}
	return e
}

func node(typ int, f ...int) api.Node { return api.Node{Type: typ, F: f} }

func mem(globals []int, nodes ...api.Node) api.Mem { return api.Mem{Globals: globals, Nodes: nodes} }

func list(t *testing.T) api.Desc {
	return parse(t, `desc list {
type T { n int; next T; on bool }
type U { t T; u U }
var r T
var c int
var b bool
measure length(T) nil 0 = 1 + length(this.next)
measure last(T) nil -7 = if(this.next == nil, this.n, last(this.next))
measure count(U) nil 100 = c + length(this.t) + if(this.u == nil, 0, count(this.u))
measure bad(T) nil 0 = this.n / (this.n - 4)
measure odd(T) nil 0 = even(this.next)
measure even(T) nil 1 = odd(this.next)
invariant sorted(T) = this.next == nil or this.n < this.next.n
invariant counted = c == length(r)
invariant linked(U) = this.t == nil or this.u != this
invariant some = b or c < 3
}`)
}

// three is the list 3, 5, 4, with one more node that is not reached, and a node of U.
func three() api.Mem {
	return mem([]int{2, 3, 1}, node(0, 5, 3, 0), node(0, 3, 1, 1), node(0, 4, 0, 0), node(0, 9, 2, 0), node(1, 3, 5))
}

func wrongDescs(t *testing.T) []api.Desc {
	return []api.Desc{{}, parse(t, "desc d { proc p() { x = 1; } }"), parse(t, "desc d { type T { } type T { } }")}
}

// P16.1

func wantMeasure(t *testing.T, m api.Mem, name string, at, want int, err api.Errno) {
	t.Helper()
	if n, e := invariant.Measure(list(t), m, name, at); n != want || e != err {
		t.Errorf("Measure(%s, %d) = %d %v, want %d %v", name, at, n, e, want, err)
	}
}

func TestMeasure(t *testing.T) {
	m := three()
	for name, want := range map[string][]int{"length": {0, 2, 3, 1, 4}, "last": {-7, 4, 4, 4, 4}, "bad": {0, 5, -3, -100, 1}, "odd": {0, 0, 1, 1, 0}, "even": {1, 1, 0, 0, 1}} {
		for at, n := range want {
			if n != -100 {
				wantMeasure(t, m, name, at, n, api.OK)
			}
		}
	}
	wantMeasure(t, m, "bad", 3, 0, api.ErrZero)
	wantMeasure(t, m, "count", 0, 100, api.OK)
	wantMeasure(t, m, "count", 5, 0, api.ErrCycle)
	m.Nodes[4].F[1] = 0
	wantMeasure(t, m, "count", 5, 4, api.OK)
	for _, name := range []string{"length", "last", "odd"} {
		wantMeasure(t, m, name, 5, 0, api.ErrType)
	}
	wantMeasure(t, m, "count", 1, 0, api.ErrType)
	for _, at := range []int{-1, 6, 1 << 60} {
		wantMeasure(t, m, "zz", at, 0, api.ErrRange)
	}
	for _, name := range []string{"zz", "", "sorted"} {
		wantMeasure(t, m, name, 5, 0, api.ErrName)
		wantMeasure(t, m, name, 0, 0, api.ErrName)
	}
	// A cycle: the last node refers to the first one.
	m.Nodes[2].F[1] = 2
	for at := 1; at <= 4; at++ {
		wantMeasure(t, m, "length", at, 0, api.ErrCycle)
		wantMeasure(t, m, "odd", at, 0, api.ErrCycle)
	}
	wantMeasure(t, m, "length", 0, 0, api.OK)
	m.Nodes[2].F[1] = 3
	wantMeasure(t, m, "odd", 3, 0, api.ErrCycle)
	wantMeasure(t, m, "bad", 1, 5, api.OK)
	// The cycle of one node: odd and even of it are different measures, and odd is asked for again.
	wantMeasure(t, m, "even", 3, 0, api.ErrCycle)
}

func TestMeasureOfLongList(t *testing.T) {
	m := mem([]int{1, api.MaxNodes, 1})
	for i := range api.MaxNodes {
		m.Nodes = append(m.Nodes, node(0, i, (i+2)%(api.MaxNodes+1), 0))
	}
	wantMeasure(t, m, "length", 1, api.MaxNodes, api.OK)
	wantMeasure(t, m, "odd", 1, 0, api.OK)
	if ok, v, err := invariant.Check(list(t), m); !ok || v != (api.Violation{}) || err != api.OK {
		t.Error(ok, v, err)
	}
	m.Nodes[api.MaxNodes-1].F[1] = 1
	wantMeasure(t, m, "length", 1, 0, api.ErrCycle)
	if l, err := invariant.All(list(t), m); err != api.OK || !slices.Equal(l, []api.Violation{{Name: "sorted", Node: api.MaxNodes}, {Name: "counted"}}) {
		t.Error(l, err)
	}
	d := parse(t, "desc d { type T { n T } var r T measure length(T) nil 0 = 1 + length(this.n) invariant finite(T) = 0 < length(this) }")
	loop := mem([]int{1})
	for i := range api.MaxNodes {
		loop.Nodes = append(loop.Nodes, node(0, (i+1)%api.MaxNodes+1))
	}
	if l, err := invariant.All(d, loop); err != api.OK || len(l) != api.MaxNodes {
		t.Error(len(l), err)
	}
}

// P16.2

func wantExpr(t *testing.T, m api.Mem, s string, at, want int, err api.Errno) {
	t.Helper()
	if n, e := invariant.Expr(list(t), m, expr(t, s), at); n != want || e != err {
		t.Errorf("Expr(%s, %d) = %d %v, want %d %v", s, at, n, e, want, err)
	}
}

func TestExpr(t *testing.T) {
	m := three()
	m.Nodes[4].F[1] = 0
	for s, want := range map[string]int{
		"7": 7, "true": 1, "false": 0, "nil": 0, "this": 2, "this.n": 3, "this.next": 1, "this.next.next.n": 4, "this.on": 1, "r": 2, "c": 3, "b": 1, "-this.n": -3, "this.n + c * 2": 9, "7 / -2": -3, "-7 % 4": -3, "7 - 9": -2, "max(1, this.n)": 3, "min(1, this.n)": 1, "log(9)": 3, "log(0)": 0, "log(-4)": 0,
		"this == r": 1, "this != r": 0, "this.next == nil": 0, "3 < 4": 1, "4 <= 3": 0, "3 == 3": 1, "b == this.on": 1, "not b": 0, "b and this.n == 3": 1, "b or this.next.next.next.n == 1": 1, "not b and this.next.next.next.n == 1": 0, "if(b, 5, 1 / 0)": 5, "if(not b, 1 / 0, 6)": 6, "length(this)": 3, "length(this.next.next.next)": 0, "length(nil) + last(nil)": -7, "last(r) * length(r)": 12, "odd(this) + even(this.next)": 2, "if(b, this, nil)": 2,
	} {
		wantExpr(t, m, s, 2, want, api.OK)
	}
	wantExpr(t, m, "count(this) + count(nil)", 5, 104, api.OK)
	wantExpr(t, m, "length(r) + c", 0, 6, api.OK)
	wantExpr(t, m, "this.t.n", 5, 4, api.OK)
	for s, err := range map[string]api.Errno{
		"this.next.next.next.n": api.ErrNil, "1 / 0": api.ErrZero, "this.n % (c - 3)": api.ErrZero, "1099511627776 + 1": api.ErrBig, "1048577 * 1048577": api.ErrBig, "-1099511627776 - this.n": api.ErrBig, "bad(this.next.next)": api.ErrZero, "length(this) + 1 / 0 + this.next.next.next.n": api.ErrZero, "this.next.next.next.n + 1 / 0": api.ErrNil, "b and this.next.next.next.on": api.ErrNil,
		"this.z": api.ErrName, "zz": api.ErrName, "new T": api.ErrState, "length(this, this)": api.ErrSize, "length(c)": api.ErrType, "count(this)": api.ErrType, "b + 1": api.ErrType, "zz(this)": api.ErrName, "1 / 0 + b": api.ErrType,
	} {
		wantExpr(t, m, s, 2, 0, err)
	}
	wantExpr(t, m, "this", 0, 0, api.ErrName)
	wantExpr(t, m, "this.n", 5, 0, api.ErrName)
	wantExpr(t, m, "zz", 6, 0, api.ErrRange)
	wantExpr(t, m, "1", -1, 0, api.ErrRange)
	m.Nodes[2].F[1] = 2
	wantExpr(t, m, "length(this)", 2, 0, api.ErrCycle)
	wantExpr(t, m, "if(b, 1, length(this))", 2, 1, api.OK)
	if n, err := invariant.Expr(list(t), m, api.Expr{}, 99); n != 0 || err != api.ErrArg {
		t.Error(n, err)
	}
	if n, err := invariant.Expr(list(t), m, api.Expr{Op: api.XInt, N: -1}, 0); n != 0 || err != api.ErrArg {
		t.Error(n, err)
	}
}

// P16.3

func TestHolds(t *testing.T) {
	d, m := list(t), three()
	want := func(name string, at int, want bool, err api.Errno) {
		t.Helper()
		if ok, e := invariant.Holds(d, m, name, at); ok != want || e != err {
			t.Error(name, at, ok, e)
		}
	}
	want("sorted", 1, false, api.OK)
	want("sorted", 2, true, api.OK)
	want("sorted", 3, true, api.OK)
	want("sorted", 4, false, api.OK)
	want("counted", 0, true, api.OK)
	want("linked", 5, false, api.OK)
	want("some", 0, true, api.OK)
	want("sorted", 0, false, api.ErrType)
	want("sorted", 5, false, api.ErrType)
	want("counted", 1, false, api.ErrType)
	want("linked", 2, false, api.ErrType)
	want("zz", 0, false, api.ErrName)
	want("length", 1, false, api.ErrName)
	want("zz", 6, false, api.ErrRange)
	want("sorted", -1, false, api.ErrRange)
	m.Globals[2] = 0
	want("some", 0, false, api.OK)
	m.Nodes[2].F[1] = 2
	want("counted", 0, false, api.OK)
	d = parse(t, "desc d { var a int invariant zero = 1 / a == 1 invariant big = a + 1099511627776 < 0 }")
	m = mem([]int{0})
	want("zero", 0, false, api.OK)
	m = mem([]int{1})
	want("zero", 0, true, api.OK)
	want("big", 0, false, api.OK)
}

// P16.4

func TestCheckAndAll(t *testing.T) {
	d := list(t)
	want := func(m api.Mem, l ...api.Violation) {
		t.Helper()
		all, err := invariant.All(d, m)
		if err != api.OK || !slices.Equal(all, l) {
			t.Error(all, err, l)
		}
		ok, v, err := invariant.Check(d, m)
		first := api.Violation{}
		if len(l) > 0 {
			first = l[0]
		}
		if err != api.OK || ok != (len(l) == 0) || v != first {
			t.Error(ok, v, err, l)
		}
	}
	v := func(name string, n int) api.Violation { return api.Violation{Name: name, Node: n} }
	want(three(), v("sorted", 1))
	want(mem([]int{0, 0, 0}))
	want(mem([]int{0, 0, 0}, node(0, 5, 1, 0)))
	m := three()
	m.Globals = []int{4, 5, 0}
	want(m, v("sorted", 4), v("sorted", 1), v("counted", 0), v("some", 0))
	m.Globals[1] = 4
	want(m, v("sorted", 4), v("sorted", 1), v("some", 0))
	m = three()
	m.Nodes[2].F[1] = 2
	want(m, v("sorted", 1), v("sorted", 3), v("counted", 0))
	// Nodes of several types, in the order of the search.
	d = parse(t, "desc d { type A { b B; n int } type B { a A; n int } var b B var a A invariant two(B) = this.n == 1 invariant one(A) = this.n / this.n == 1 invariant none(A) = false invariant all = true }")
	want(mem([]int{2, 3}, node(0, 4, 0), node(1, 1, 1), node(0, 0, 0), node(1, 3, 2)), v("two", 4), v("one", 1), v("one", 3), v("none", 1), v("none", 3))
}

func TestWrongArguments(t *testing.T) {
	check := func(d api.Desc, m api.Mem) {
		t.Helper()
		if n, err := invariant.Measure(d, m, "zz", 99); n != 0 || err != api.ErrArg {
			t.Error(n, err)
		}
		if n, err := invariant.Expr(d, m, expr(t, "zz"), 99); n != 0 || err != api.ErrArg {
			t.Error(n, err)
		}
		if ok, err := invariant.Holds(d, m, "zz", 99); ok || err != api.ErrArg {
			t.Error(ok, err)
		}
		if ok, v, err := invariant.Check(d, m); ok || v != (api.Violation{}) || err != api.ErrArg {
			t.Error(ok, v, err)
		}
		if l, err := invariant.All(d, m); len(l) != 0 || err != api.ErrArg {
			t.Error(l, err)
		}
	}
	for _, d := range wrongDescs(t) {
		check(d, api.Mem{})
	}
	for _, m := range []api.Mem{{}, mem([]int{1, 0, 0}), mem([]int{0, 0, 2}), mem([]int{0, 0, 0}, node(7)), mem([]int{0, 0, 0}, node(0, 0, 1, 2))} {
		check(list(t), m)
	}
}

// P16.5

func TestNumbersDoNotMatter(t *testing.T) {
	d := list(t)
	for _, m := range []api.Mem{three(), mem([]int{4, 5, 0}, three().Nodes...), mem([]int{3, 1, 1}, node(0, 9, 0, 0), node(1, 3, 0), node(0, 1, 1, 0))} {
		c, err := heap.Canonical(d, m)
		if err != api.OK {
			t.Fatal(err)
		}
		order, _ := heap.Reachable(d, m)
		all, _ := invariant.All(d, m)
		other, _ := invariant.All(d, c)
		if len(all) != len(other) {
			t.Fatal(all, other)
		}
		for i, v := range all {
			n := 0
			if v.Node > 0 {
				n = slices.Index(order, v.Node) + 1
			}
			if other[i] != (api.Violation{Name: v.Name, Node: n}) {
				t.Fatal(all, other)
			}
		}
		for i, n := range order {
			for _, name := range []string{"length", "last", "odd", "count"} {
				a, err1 := invariant.Measure(d, m, name, n)
				b, err2 := invariant.Measure(d, c, name, i+1)
				if a != b || err1 != err2 {
					t.Fatal(name, n, a, b)
				}
			}
		}
	}
}

// A measure is what its expression says.
func TestMeasureIsItsExpression(t *testing.T) {
	d, m := list(t), three()
	m.Nodes[4].F[1] = 0
	for _, x := range d.Measures {
		for at := 1; at <= len(m.Nodes); at++ {
			a, err1 := invariant.Measure(d, m, x.Name, at)
			b, err2 := invariant.Expr(d, m, x.X, at)
			if err1 == api.ErrType {
				continue
			}
			if a != b || err1 != err2 {
				t.Error(x.Name, at, a, b, err1, err2)
			}
		}
	}
}

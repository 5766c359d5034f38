package heap_test

import (
	"reflect"
	"slices"
	"testing"

	"heartwood/api"
	"heartwood/heap"
	"heartwood/parser"
)

func parse(t *testing.T, s string) api.Desc {
	t.Helper()
	d, place, err := parser.Parse(s)
	if err != api.OK {
		t.Fatal(s, place, err)
	}
	return d
}

func list(t *testing.T) api.Desc {
	return parse(t, "desc list { type T { next T; n int } var v T }")
}

func mixed(t *testing.T) api.Desc {
	return parse(t, "desc mixed { type A { b B; on bool; a A; n int } type B { a A; a2 A } type E { } var n int var a A var on bool var e E var b B }")
}

func node(typ int, f ...int) api.Node { return api.Node{Type: typ, F: f} }

func mem(globals []int, nodes ...api.Node) api.Mem { return api.Mem{Globals: globals, Nodes: nodes} }

// example is the memory of the chapter's example.
func example() api.Mem { return mem([]int{2}, node(0, 0, 5), node(0, 1, 7), node(0, 0, 9)) }

// graph is a memory of mixed with cycles, shared nodes, and nodes that are not reached.
func graph() api.Mem {
	return mem([]int{-7, 4, 1, 6, 2}, node(0, 0, 1, 0, 3), node(1, 4, 3), node(0, 2, 0, 3, -9), node(0, 2, 1, 7, 0), node(1, 1, 1), node(2), node(0, 0, 0, 4, api.MaxInt))
}

func same(a, b api.Mem) bool {
	return slices.Equal(a.Globals, b.Globals) && slices.EqualFunc(a.Nodes, b.Nodes, func(x, y api.Node) bool { return x.Type == y.Type && slices.Equal(x.F, y.F) })
}

func clone(m api.Mem) api.Mem {
	r := api.Mem{Globals: slices.Clone(m.Globals)}
	for _, n := range m.Nodes {
		r.Nodes = append(r.Nodes, node(n.Type, slices.Clone(n.F)...))
	}
	return r
}

func isZero(m api.Mem) bool { return len(m.Globals) == 0 && len(m.Nodes) == 0 }

func spoil(m api.Mem) {
	for i := range m.Globals {
		m.Globals[i] = 99
	}
	for i := range m.Nodes {
		for k := range m.Nodes[i].F {
			m.Nodes[i].F[k] = 99
		}
		m.Nodes[i] = api.Node{Type: 99}
	}
}

// untyped has descriptions that do not have types.
func untyped(t *testing.T) []api.Desc {
	return []api.Desc{
		{}, {Name: "if"}, parse(t, "desc d { type T { } type T { } }"), parse(t, "desc d { type T { a U } }"), parse(t, "desc d { var a U }"), parse(t, "desc d { type T { a d } }"),
		{Name: "d", Bounds: make([]api.Bound, 1)}, {Name: "d", Globals: make([]api.Field, 1)},
	}
}

// invalid has memories that are not valid for mixed.
func invalid() []api.Mem {
	var l []api.Mem
	for _, globals := range [][]int{nil, {0, 0, 0, 0}, {0, 0, 0, 0, 0, 0}, {api.MaxInt + 1, 0, 0, 0, 0}, {-api.MaxInt - 1, 0, 0, 0, 0}, {0, 1, 0, 0, 0}, {0, -1, 0, 0, 0}, {0, 0, 2, 0, 0}, {0, 0, -1, 0, 0}, {0, 1 << 62, 0, 0, 0}} {
		l = append(l, mem(globals))
	}
	for _, n := range []api.Node{node(3), node(-1), node(0), node(0, 0, 0, 0), node(0, 0, 0, 0, 0, 0), node(1, 0), node(2, 0), node(0, 0, 2, 0, 0), node(0, 0, 0, 0, api.MaxInt+1), node(0, 0, 0, 2, 0), node(0, 0, 0, 3, 0), node(0, 1, 0, 0, 0), node(0, 0, 0, -1, 0), node(1, 2, 0), node(1, 4, 0)} {
		l = append(l, mem([]int{0, 0, 0, 0, 0}, n, node(1, 0, 0), node(2)))
	}
	l = append(l, mem([]int{0, 2, 0, 0, 0}, node(0, 0, 0, 0, 0), node(1, 0, 0)), mem([]int{0, 0, 0, 1, 0}, node(0, 0, 0, 0, 0)), mem([]int{0, 3, 0, 0, 0}, node(0, 0, 0, 0, 0)))
	return append(l, mem([]int{0, 0, 0, 0, 0}, slices.Repeat([]api.Node{node(2)}, api.MaxNodes+1)...))
}

// P12.1

func TestNew(t *testing.T) {
	if m, err := heap.New(mixed(t)); err != api.OK || !same(m, mem([]int{0, 0, 0, 0, 0})) || !heap.Valid(mixed(t), m) {
		t.Error(m, err)
	}
	if m, err := heap.New(parse(t, "desc d { }")); err != api.OK || !isZero(m) {
		t.Error(m, err)
	}
	// Only the types count: what is wrong elsewhere does not matter.
	if m, err := heap.New(parse(t, "desc d { type T { a T; a T } var v T var v T proc p() V { x = 1 + true; } invariant i(V) = 1 }")); err != api.OK || len(m.Globals) != 2 {
		t.Error(m, err)
	}
	for i, d := range untyped(t) {
		if m, err := heap.New(d); err != api.ErrArg || !isZero(m) || heap.Valid(d, api.Mem{}) {
			t.Error(i, m, err)
		}
	}
}

func TestValid(t *testing.T) {
	if !heap.Valid(list(t), example()) || !heap.Valid(mixed(t), graph()) || heap.Valid(list(t), graph()) || heap.Valid(mixed(t), example()) {
		t.Error("valid")
	}
	for i, m := range invalid() {
		if heap.Valid(mixed(t), m) {
			t.Error(i, m)
		}
	}
	if !heap.Valid(mixed(t), mem([]int{-api.MaxInt, 0, 1, 0, 0}, slices.Repeat([]api.Node{node(2)}, api.MaxNodes)...)) {
		t.Error("the most nodes")
	}
}

// The errors that come first in all functions with memories.
func TestWrongArguments(t *testing.T) {
	check := func(d api.Desc, m api.Mem) {
		t.Helper()
		if r, n, err := heap.Alloc(d, m, 99); err != api.ErrArg || n != 0 || !isZero(r) {
			t.Error(r, n, err)
		}
		if r, err := heap.Read(d, m, 99, 99); err != api.ErrArg || r != 0 {
			t.Error(r, err)
		}
		if r, err := heap.Write(d, m, 99, 99, 1); err != api.ErrArg || !isZero(r) {
			t.Error(r, err)
		}
		if r, err := heap.Reachable(d, m); err != api.ErrArg || len(r) != 0 {
			t.Error(r, err)
		}
		if r, err := heap.Canonical(d, m); err != api.ErrArg || !isZero(r) {
			t.Error(r, err)
		}
		if r, err := heap.Same(d, m, m); err != api.ErrArg || r {
			t.Error(r, err)
		}
		if r, n, err := heap.Tree(d, m); err != api.ErrArg || r || n != 0 {
			t.Error(r, n, err)
		}
		if s, err := heap.Text(d, m); err != api.ErrArg || s != "" {
			t.Error(s, err)
		}
	}
	for _, m := range invalid() {
		check(mixed(t), m)
		if r, err := heap.Same(mixed(t), m, graph()); err != api.ErrArg || r {
			t.Error(r, err)
		}
		if r, err := heap.Same(mixed(t), graph(), m); err != api.ErrArg || r {
			t.Error(r, err)
		}
	}
	for _, d := range untyped(t) {
		check(d, api.Mem{})
		check(d, mem([]int{0}))
	}
}

// P12.2

func TestAlloc(t *testing.T) {
	m := graph()
	for typ, want := range []api.Node{node(0, 0, 0, 0, 0), node(1, 0, 0), node(2)} {
		r, n, err := heap.Alloc(mixed(t), m, typ)
		if err != api.OK || n != 8 || !same(r, mem(m.Globals, append(graph().Nodes, want)...)) || !same(m, graph()) {
			t.Error(r, n, err)
		}
		spoil(r)
		if !same(m, graph()) {
			t.Fatal("the result shares memory with the argument")
		}
	}
	for _, typ := range []int{-1, 3, 1 << 60, -1 << 63} {
		if r, n, err := heap.Alloc(mixed(t), m, typ); err != api.ErrRange || n != 0 || !isZero(r) {
			t.Error(r, n, err)
		}
	}
	full := mem([]int{0, 0, 0, 0, 0}, slices.Repeat([]api.Node{node(2)}, api.MaxNodes)...)
	if r, n, err := heap.Alloc(mixed(t), full, 0); err != api.ErrMemory || n != 0 || !isZero(r) {
		t.Error(n, err)
	}
	if _, _, err := heap.Alloc(mixed(t), full, 3); err != api.ErrRange {
		t.Error(err)
	}
	full.Nodes = full.Nodes[1:]
	if r, n, err := heap.Alloc(mixed(t), full, 0); err != api.OK || n != api.MaxNodes || len(r.Nodes) != api.MaxNodes {
		t.Error(n, err)
	}
}

// P12.3

func TestReadAndWrite(t *testing.T) {
	d, m := mixed(t), graph()
	for i := 0; i <= len(m.Nodes); i++ {
		values := m.Globals
		if i > 0 {
			values = m.Nodes[i-1].F
		}
		for k, want := range values {
			if n, err := heap.Read(d, m, i, k); n != want || err != api.OK {
				t.Error(i, k, n, err)
			}
			checkWrites(t, d, i, k)
		}
		for _, k := range []int{-1, len(values), 1 << 60, -1 << 63} {
			if n, err := heap.Read(d, m, i, k); n != 0 || err != api.ErrRange {
				t.Error(i, k, n, err)
			}
			if r, err := heap.Write(d, m, i, k, -5); !isZero(r) || err != api.ErrRange {
				t.Error(i, k, r, err)
			}
		}
	}
	for _, i := range []int{-1, 8, 1 << 60, -1 << 63} {
		if n, err := heap.Read(d, m, i, 0); n != 0 || err != api.ErrRange {
			t.Error(i, n, err)
		}
		if r, err := heap.Write(d, m, i, 0, 1<<60); !isZero(r) || err != api.ErrRange {
			t.Error(i, r, err)
		}
	}
}

// checkWrites writes many values to one place of the graph: exactly those that keep the memory valid are right.
func checkWrites(t *testing.T, d api.Desc, i, k int) {
	t.Helper()
	for _, value := range []int{-1 << 63, -api.MaxInt - 1, -api.MaxInt, -1, 0, 1, 2, 3, 4, 5, 6, 7, 8, api.MaxInt, api.MaxInt + 1} {
		m, want := graph(), graph()
		if i == 0 {
			want.Globals[k] = value
		} else {
			want.Nodes[i-1].F[k] = value
		}
		r, err := heap.Write(d, m, i, k, value)
		if !same(m, graph()) {
			t.Fatal("the argument has changed")
		}
		if !heap.Valid(d, want) {
			if err != api.ErrType || !isZero(r) {
				t.Fatal(i, k, value, r, err)
			}
			continue
		}
		if err != api.OK || !same(r, want) {
			t.Fatal(i, k, value, r, err)
		}
		if n, _ := heap.Read(d, r, i, k); n != value {
			t.Fatal(i, k, value, n)
		}
		spoil(r)
		if !same(m, graph()) {
			t.Fatal("the result shares memory with the argument")
		}
	}
}

// P12.4

func TestSearch(t *testing.T) {
	for _, c := range []struct {
		d     api.Desc
		m     api.Mem
		order []int
		again int
		want  api.Mem
	}{
		{list(t), example(), []int{2, 1}, 0, mem([]int{1}, node(0, 2, 7), node(0, 0, 5))},
		{list(t), mem([]int{0}, node(0, 1, 1)), nil, 0, mem([]int{0})},
		{list(t), mem([]int{2}, node(0, 2, 1), node(0, 1, 2)), []int{2, 1}, 2, mem([]int{1}, node(0, 2, 2), node(0, 1, 1))},
		{mixed(t), graph(), []int{4, 2, 3, 7, 6}, 4, mem([]int{-7, 1, 1, 5, 2}, node(0, 2, 1, 4, 0), node(1, 1, 3), node(0, 2, 0, 3, -9), node(0, 0, 0, 1, api.MaxInt), node(2))},
		{mixed(t), mem([]int{1, 1, 1, 0, 2}, node(0, 0, 1, 0, 1), node(1, 3, 1), node(0, 0, 0, 0, 2)), []int{1, 2, 3}, 1, mem([]int{1, 1, 1, 0, 2}, node(0, 0, 1, 0, 1), node(1, 3, 1), node(0, 0, 0, 0, 2))},
		{mixed(t), mem([]int{3, 2, 1, 0, 1}, node(1, 3, 4), node(0, 0, 1, 3, 1), node(0, 0, 0, 0, 2), node(0, 1, 0, 4, 5)), []int{2, 3, 1, 4}, 3, mem([]int{3, 1, 1, 0, 3}, node(0, 0, 1, 2, 1), node(0, 0, 0, 0, 2), node(1, 2, 4), node(0, 3, 0, 4, 5))},
	} {
		before := clone(c.m)
		order, err := heap.Reachable(c.d, c.m)
		if err != api.OK || !slices.Equal(order, c.order) {
			t.Error(c.m, order, err)
		}
		tree, again, err := heap.Tree(c.d, c.m)
		if err != api.OK || tree != (c.again == 0) || again != c.again {
			t.Error(c.m, tree, again, err)
		}
		r, err := heap.Canonical(c.d, c.m)
		if err != api.OK || !same(r, c.want) || !heap.Valid(c.d, r) {
			t.Error(c.m, r, err)
		}
		if ok, err := heap.Same(c.d, c.m, c.want); !ok || err != api.OK {
			t.Error(c.m, ok, err)
		}
		if again, err := heap.Canonical(c.d, r); err != api.OK || !same(again, r) {
			t.Error(again, err)
		}
		spoil(r)
		if !same(c.m, before) {
			t.Error("the argument has changed")
		}
	}
}

func TestSame(t *testing.T) {
	d := list(t)
	for _, c := range []struct {
		a, b api.Mem
		want bool
	}{
		{example(), mem([]int{1}, node(0, 2, 7), node(0, 0, 5), node(0, 3, 1)), true}, {example(), mem([]int{1}, node(0, 2, 7), node(0, 0, 6)), false}, {example(), mem([]int{1}, node(0, 2, 7), node(0, 1, 5)), false}, {example(), mem([]int{0}), false}, {mem([]int{0}, node(0, 0, 5)), mem([]int{0}), true},
		{mem([]int{1}, node(0, 0, 5)), mem([]int{1}, node(0, 1, 5)), false}, {mem([]int{1}, node(0, 2, 5), node(0, 1, 5)), mem([]int{1}, node(0, 1, 5)), false},
	} {
		for _, pair := range [][2]api.Mem{{c.a, c.b}, {c.b, c.a}} {
			if ok, err := heap.Same(d, pair[0], pair[1]); ok != c.want || err != api.OK {
				t.Error(c, ok, err)
			}
		}
	}
	two := parse(t, "desc d { type A { } type B { } var n int var a A var b B }")
	if ok, _ := heap.Same(two, mem([]int{1, 0, 0}), mem([]int{2, 0, 0})); ok {
		t.Error("global variables")
	}
	if ok, _ := heap.Same(two, mem([]int{1, 1, 2}, node(0), node(1)), mem([]int{1, 2, 1}, node(1), node(0))); !ok {
		t.Error("order")
	}
}

// The longest list must not be too deep.
func TestLongList(t *testing.T) {
	m := mem([]int{1})
	for i := range api.MaxNodes {
		m.Nodes = append(m.Nodes, node(0, (i+2)%(api.MaxNodes+1), i))
	}
	if tree, n, err := heap.Tree(list(t), m); !tree || n != 0 || err != api.OK {
		t.Error(tree, n, err)
	}
	if l, err := heap.Reachable(list(t), m); err != api.OK || len(l) != api.MaxNodes || l[api.MaxNodes-1] != api.MaxNodes {
		t.Error(len(l), err)
	}
}

// numbers yields numbers by a fixed rule.
type numbers int

func (n *numbers) below(limit int) int {
	*n = *n * 48271 % 2147483647
	return int(*n) % limit
}

// P12.6: other numbers of nodes, and further nodes that are not reached, change nothing.
func TestNumbersDoNotMatter(t *testing.T) {
	n := numbers(13)
	d := mixed(t)
	for range 300 {
		m := mem([]int{n.below(9), 0, n.below(2), 0, 0})
		count := n.below(8)
		for range count {
			m.Nodes = append(m.Nodes, node(n.below(2)))
		}
		pick := func(typ int) int {
			k := n.below(count + 1)
			if k > 0 && m.Nodes[k-1].Type == typ {
				return k
			}
			return 0
		}
		for i := range m.Nodes {
			if m.Nodes[i].Type == 0 {
				m.Nodes[i].F = []int{pick(1), n.below(2), pick(0), n.below(100)}
			} else {
				m.Nodes[i].F = []int{pick(0), pick(0)}
			}
		}
		m.Globals[1], m.Globals[4] = pick(0), pick(1)
		other := shuffled(&n, m)
		a, err1 := heap.Canonical(d, m)
		b, err2 := heap.Canonical(d, other)
		ok, err3 := heap.Same(d, m, other)
		if err1 != api.OK || err2 != api.OK || err3 != api.OK || !ok || !same(a, b) {
			t.Fatal(m, other, a, b)
		}
	}
}

// shuffled returns a memory with other numbers of nodes, and one more node.
func shuffled(n *numbers, m api.Mem) api.Mem {
	places := []int{}
	for i := range len(m.Nodes) + 1 {
		places = slices.Insert(places, n.below(i+1), i+1)
	}
	ref := func(k int) int {
		if k == 0 {
			return 0
		}
		return places[k-1]
	}
	r := mem([]int{m.Globals[0], ref(m.Globals[1]), m.Globals[2], 0, ref(m.Globals[4])})
	r.Nodes = make([]api.Node, len(m.Nodes)+1)
	for i, x := range m.Nodes {
		f := []int{ref(x.F[0]), ref(x.F[1])}
		if x.Type == 0 {
			f = []int{ref(x.F[0]), x.F[1], ref(x.F[2]), x.F[3]}
		}
		r.Nodes[places[i]-1] = node(x.Type, f...)
	}
	r.Nodes[places[len(m.Nodes)]-1] = node(2)
	return r
}

// P12.5

func TestText(t *testing.T) {
	for _, c := range []struct {
		d    api.Desc
		m    api.Mem
		want string
	}{
		{list(t), mem([]int{1}, node(0, 2, 7), node(0, 0, -5)), "v = #1\n#1 T { next = #2; n = 7; }\n#2 T { next = nil; n = -5; }\n"},
		{list(t), mem([]int{0}), "v = nil\n"}, {parse(t, "desc d { }"), api.Mem{}, ""},
		{mixed(t), mem([]int{-12, 2, 1, 1, 0}, node(2), node(0, 0, 0, 2, api.MaxInt), node(0, 0, 1, 0, 0)), "n = -12\na = #2\non = true\ne = #1\nb = nil\n#1 E { }\n#2 A { b = nil; on = false; a = #2; n = 1099511627776; }\n#3 A { b = nil; on = true; a = nil; n = 0; }\n"},
	} {
		if s, err := heap.Text(c.d, c.m); s != c.want || err != api.OK {
			t.Errorf("%q %v, want %q", s, err, c.want)
		}
	}
}

func TestTextLimit(t *testing.T) {
	// Each line but the first one has "# T { next = nil; n = ; }" and a newline, and two numbers.
	d := list(t)
	m := mem([]int{0})
	for range 2000 {
		m.Nodes = append(m.Nodes, node(0, 0, 1))
	}
	s, err := heap.Text(d, m)
	if err != api.OK {
		t.Fatal(err)
	}
	left := api.MaxText - len(s)
	for i := range m.Nodes {
		k := min(left, 12)
		if k < 1 {
			break
		}
		n := 1
		for range k {
			n *= 10
		}
		m.Nodes[i].F[1] = n
		left -= k
	}
	if s, err := heap.Text(d, m); len(s) != api.MaxText || err != api.OK {
		t.Fatal(len(s), err)
	}
	m.Nodes[1999].F[1] *= -10
	if s, err := heap.Text(d, m); s != "" || err != api.ErrFull {
		t.Error(len(s), err)
	}
	many := mem([]int{0}, slices.Repeat([]api.Node{node(0, 0, 1)}, api.MaxNodes)...)
	if s, err := heap.Text(d, many); s != "" || err != api.ErrFull {
		t.Error(len(s), err)
	}
}

func TestArgumentsStay(t *testing.T) {
	d := mixed(t)
	before := mixed(t)
	m := graph()
	heap.New(d)
	heap.Text(d, m)
	heap.Same(d, m, m)
	heap.Tree(d, m)
	l, _ := heap.Reachable(d, m)
	l[0] = 99
	if !same(m, graph()) || !reflect.DeepEqual(d, before) {
		t.Error("an argument has changed")
	}
	if l, _ := heap.Reachable(d, m); l[0] != 4 {
		t.Error(l)
	}
}

package model_test

import (
	"math"
	"slices"
	"testing"

	"heartwood/api"
	"heartwood/model"
)

// limit is how many entries, elements, points, or characters a state has at most.
const limit = 500

func op(code int, args ...int) api.Op { return api.Op{Code: code, Args: args} }

func state(kind int, rows ...[]int) api.State { return api.State{Kind: kind, Rows: rows} }

func is(n int) api.Res { return api.Res{N: n} }

func fails(err api.Errno) api.Res { return api.Res{Err: err} }

// kinds returns all kinds.
func kinds() []int { return []int{api.Dict, api.Heap, api.Seq, api.Sets, api.Range, api.Text} }

// wrongKinds returns numbers that are no kinds.
func wrongKinds() []int { return []int{0, -1, 7, 8, 100, 1 << 40, math.MinInt, math.MaxInt} }

// wrongCodes returns numbers that are no codes of a kind.
func wrongCodes(kind int) []int {
	return []int{0, -1, -2, len(codes(kind)) + 1, len(codes(kind)) + 2, 9, 10, 1 << 40, math.MinInt, math.MaxInt}
}

// manyArgs stands for 1 to MaxArgs characters.
const manyArgs = -1

// described is a row of the chapter's table of operations.
type described struct {
	word   string
	args   int
	update bool
}

// codes returns the operations of a kind, as the chapter lists them.
func codes(kind int) []described {
	return [][]described{
		api.Dict:  {{"put", 2, true}, {"get", 1, false}, {"remove", 1, true}, {"floor", 1, false}, {"ceiling", 1, false}, {"rank", 1, false}, {"select", 1, false}, {"size", 0, false}},
		api.Heap:  {{"insert", 1, true}, {"min", 0, false}, {"deletemin", 0, true}, {"size", 0, false}},
		api.Seq:   {{"insert", 2, true}, {"remove", 1, true}, {"get", 1, false}, {"set", 2, true}, {"sum", 2, false}, {"reverse", 2, true}, {"size", 0, false}},
		api.Sets:  {{"make", 0, true}, {"union", 2, true}, {"same", 2, false}, {"size", 1, false}, {"count", 0, false}},
		api.Range: {{"add", 3, true}, {"remove", 2, true}, {"count", 4, false}, {"sum", 4, false}, {"size", 0, false}},
		api.Text:  {{"append", manyArgs, true}, {"count", manyArgs, false}, {"find", manyArgs, false}, {"size", 0, false}},
	}[kind]
}

// repeated returns a list of n equal numbers.
func repeated(n, value int) []int {
	l := make([]int, n)
	for i := range l {
		l[i] = value
	}
	return l
}

// span returns the numbers from a to b - 1.
func span(a, b int) []int {
	var l []int
	for ; a < b; a++ {
		l = append(l, a)
	}
	return l
}

// filled returns a state of a kind with n entries, elements, points, or characters.
func filled(kind, n int) api.State {
	if kind == api.Text {
		if n == 0 {
			return state(kind)
		}
		return state(kind, repeated(n, 7))
	}
	s := state(kind)
	for i := range n {
		s.Rows = append(s.Rows, map[int][]int{
			api.Dict: {2 * i, i}, api.Heap: {i / 3}, api.Seq: {i}, api.Sets: {i}, api.Range: {i / 10, i % 10, i},
		}[kind])
	}
	return s
}

func clone(s api.State) api.State {
	rows := make([][]int, len(s.Rows))
	for i := range s.Rows {
		rows[i] = slices.Clone(s.Rows[i])
	}
	return api.State{Kind: s.Kind, Rows: rows}
}

func cloneOp(o api.Op) api.Op { return api.Op{Code: o.Code, Args: slices.Clone(o.Args)} }

// same compares states without the help of the package.
func same(a, b api.State) bool {
	if a.Kind != b.Kind || len(a.Rows) != len(b.Rows) {
		return false
	}
	for i := range a.Rows {
		if !slices.Equal(a.Rows[i], b.Rows[i]) {
			return false
		}
	}
	return true
}

func isZeroState(s api.State) bool { return s.Kind == 0 && len(s.Rows) == 0 }

func sameRes(a, b api.Res) bool { return a.Err == b.Err && a.N == b.N && slices.Equal(a.L, b.L) }

func sameResults(a, b []api.Res) bool { return slices.EqualFunc(a, b, sameRes) }

// wantOwnRows checks that no row of a state shares memory with another one; it spoils the state.
func wantOwnRows(t *testing.T, s api.State) {
	t.Helper()
	before := clone(s)
	for i := range s.Rows {
		row := s.Rows[i][:cap(s.Rows[i])]
		for k := range row {
			row[k] = 12345678
		}
		copy(row, before.Rows[i])
		if !same(s, before) {
			t.Fatalf("row %d shares memory with another one of %v", i, before)
		}
	}
}

// spoil overwrites all rows of a state.
func spoil(s api.State) {
	for i := range s.Rows {
		for k := range s.Rows[i] {
			s.Rows[i][k] = 12345678
		}
		s.Rows[i] = nil
	}
}

// apply does an operation that must be valid, in a valid state, and checks what holds for all of them.
func apply(t *testing.T, s api.State, o api.Op) (api.State, api.Res) {
	t.Helper()
	before, beforeOp := clone(s), cloneOp(o)
	next, r, err := model.Apply(s, o)
	if err != api.OK {
		t.Fatalf("Apply(%v, %v): %v", before, o, err)
	}
	if len(r.L) != 0 || r.Err != api.OK && r.N != 0 {
		t.Fatalf("Apply(%v, %v) = %v", before, o, r)
	}
	if !model.Valid(next) {
		t.Fatalf("Apply(%v, %v): %v is not valid", before, o, next)
	}
	if r.Err != api.OK && !same(next, before) {
		t.Fatalf("Apply(%v, %v) fails with %v, and yields %v", before, o, r, next)
	}
	if !same(s, before) || !slices.Equal(o.Args, beforeOp.Args) {
		t.Fatalf("Apply(%v, %v) changes its arguments", before, beforeOp)
	}
	return next, r
}

// want does an operation, and checks its result and the rows after it.
func want(t *testing.T, s api.State, o api.Op, wanted api.Res, rows ...[]int) {
	t.Helper()
	next, r := apply(t, s, o)
	if !sameRes(r, wanted) || !same(next, state(s.Kind, rows...)) {
		t.Errorf("Apply(%v, %v) = %v %v, want %v %v", s, o, next, r, rows, wanted)
	}
}

// wantQuery does an operation that changes nothing, and checks its result.
func wantQuery(t *testing.T, s api.State, o api.Op, wanted api.Res) {
	t.Helper()
	want(t, s, o, wanted, s.Rows...)
}

// ask returns the result of a query that must not fail.
func ask(t *testing.T, s api.State, code int, args ...int) int {
	t.Helper()
	_, r := apply(t, s, op(code, args...))
	if r.Err != api.OK {
		t.Fatalf("Apply(%v, %d %v) = %v", s, code, args, r)
	}
	return r.N
}

// after returns the state after operations that must not fail.
func after(t *testing.T, s api.State, l ...api.Op) api.State {
	t.Helper()
	for _, o := range l {
		next, r := apply(t, s, o)
		if r.Err != api.OK {
			t.Fatalf("Apply(%v, %v) = %v", s, o, r)
		}
		s = next
	}
	return s
}

// numbers yields numbers by a fixed rule.
type numbers int

func (n *numbers) below(limit int) int {
	*n = *n * 48271 % 2147483647
	return int(*n) % limit
}

// operation returns a valid operation of a kind; most of its arguments are small.
func (n *numbers) operation(kind int) api.Op {
	l := codes(kind)
	code := n.below(len(l))
	if n.below(3) == 0 {
		code = 0 // the update by which a state grows
	}
	o := op(code + 1)
	args := l[code].args
	if args == manyArgs {
		for range 1 + n.below(3) {
			o.Args = append(o.Args, n.below(2))
		}
		return o
	}
	for range args {
		o.Args = append(o.Args, n.below(13)-2)
	}
	return o
}

package model_test

import (
	"testing"

	"heartwood/api"
	"heartwood/model"
)

// P3.4

// wantRun checks that Run does what Apply does, one operation after the other.
func wantRun(t *testing.T, s api.State, l []api.Op) {
	t.Helper()
	before := clone(s)
	last, results, err := model.Run(s, l)
	if err != api.OK || len(results) != len(l) {
		t.Fatalf("Run(%v, %v): %d results, %v", s, l, len(results), err)
	}
	if !same(s, before) {
		t.Fatalf("Run(%v, %v) changes the state", before, l)
	}
	for i, o := range l {
		next, r := apply(t, s, o)
		if !sameRes(results[i], r) {
			t.Fatalf("Run(%v, %v): the result %d is %v, want %v", before, l, i, results[i], r)
		}
		s = next
	}
	if !same(last, s) {
		t.Fatalf("Run(%v, %v) = %v, want %v", before, l, last, s)
	}
}

func script(n *numbers, kind, length int) []api.Op {
	var l []api.Op
	for range length {
		l = append(l, n.operation(kind))
	}
	return l
}

func TestRun(t *testing.T) {
	n := numbers(11)
	for _, s := range rightStates() {
		wantRun(t, s, nil)
		wantRun(t, s, []api.Op{})
		wantRun(t, s, rightOps(s.Kind))
		wantRun(t, s, script(&n, s.Kind, 40))
	}
	last, results, err := model.Run(state(api.Dict), []api.Op{op(api.DictPut, 3, 10), op(api.DictFloor, 1), op(api.DictPut, 1, 7), op(api.DictPut, 3, 11)})
	if err != api.OK || !same(last, state(api.Dict, []int{1, 7}, []int{3, 11})) || !sameResults(results, []api.Res{is(0), fails(api.ErrNone), is(0), is(1)}) {
		t.Error(last, results, err)
	}
}

func TestRunOfOracle(t *testing.T) {
	n := numbers(3)
	for _, kind := range kinds() {
		o := oracleOf(kind)
		l := script(&n, kind, 300)
		last, results, err := model.Run(state(kind), l)
		var wanted []api.Res
		for i := range l {
			wanted = append(wanted, o.do(l[i]))
		}
		if err != api.OK || !sameResults(results, wanted) || !same(last, state(kind, o.rows()...)) {
			t.Errorf("kind %d: %v %v", kind, last, err)
		}
	}
}

// grow returns n operations that each add one entry, element, point, or character.
func grow(kind, n int) []api.Op {
	var l []api.Op
	for i := range n {
		l = append(l, map[int]api.Op{
			api.Dict: op(api.DictPut, n-i, i), api.Heap: op(api.HeapInsert, n-i), api.Seq: op(api.SeqInsert, 0, i),
			api.Sets: op(api.SetsMake), api.Range: op(api.RangeAdd, i%7, i, i), api.Text: op(api.TextAppend, i%256),
		}[kind])
	}
	return l
}

func TestRunToTheLimits(t *testing.T) {
	for _, kind := range kinds() {
		last, results, err := model.Run(state(kind), grow(kind, api.MaxOps))
		if err != api.OK || len(results) != api.MaxOps || !model.Valid(last) {
			t.Fatalf("kind %d: %d results, %v", kind, len(results), err)
		}
		for i, r := range results {
			if i < limit && r.Err != api.OK || i >= limit && !sameRes(r, fails(api.ErrFull)) {
				t.Fatalf("kind %d: the result %d is %v", kind, i, r)
			}
		}
		full, _, _ := model.Run(state(kind), grow(kind, api.MaxOps)[:limit])
		if !same(full, last) {
			t.Errorf("kind %d: failing operations change the state", kind)
		}
	}
}

func wantNoRun(t *testing.T, s api.State, l []api.Op, wanted api.Errno) {
	t.Helper()
	last, results, err := model.Run(s, l)
	if err != wanted || !isZeroState(last) || len(results) != 0 {
		t.Errorf("Run(%.100v, %.100v) = %.100v %.100v %v, want %v", s, l, last, results, err, wanted)
	}
}

func TestRunOfWrongArguments(t *testing.T) {
	for _, kind := range kinds() {
		many := grow(kind, api.MaxOps+1)
		wantNoRun(t, state(kind), many, api.ErrFull)
		wantNoRun(t, filled(kind, limit), grow(kind, 3*api.MaxOps), api.ErrFull)
		for i, wrong := range wrongOps(kind) {
			wantNoRun(t, state(kind), []api.Op{wrong}, api.ErrArg)
			if i%5 == 0 {
				wantNoRun(t, state(kind), append(grow(kind, 9), wrong), api.ErrArg)
				wantNoRun(t, state(kind), append([]api.Op{wrong}, grow(kind, 9)...), api.ErrArg)
				wantNoRun(t, state(kind), append(grow(kind, api.MaxOps+1), wrong), api.ErrArg)
			}
		}
		wantNoRun(t, state(kind), append(grow(kind, api.MaxOps), op(0)), api.ErrArg)
		for name, s := range wrongStates() {
			if model.Valid(s) {
				t.Error(name)
			}
			wantNoRun(t, s, nil, api.ErrArg)
			wantNoRun(t, s, grow(kind, 2), api.ErrArg)
			wantNoRun(t, s, many, api.ErrArg)
		}
	}
}

func TestRunSharesNoMemory(t *testing.T) {
	n := numbers(17)
	for _, s := range rightStates() {
		before := clone(s)
		l := script(&n, s.Kind, 5)
		for _, script := range [][]api.Op{nil, l} {
			last, _, _ := model.Run(s, script)
			wantOwnRows(t, last)
			spoil(last)
		}
		if !same(s, before) {
			t.Fatalf("the result of Run(%v, %v) shares memory with its argument", before, l)
		}
		last, _, _ := model.Run(s, l)
		kept := clone(last)
		for i := range l {
			for k := range l[i].Args {
				l[i].Args[k] = 1
			}
		}
		if !same(last, kept) {
			t.Fatalf("Run(%v, ..) keeps the arguments of operations", before)
		}
	}
}

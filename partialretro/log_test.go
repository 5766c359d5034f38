package partialretro_test

import (
	"maps"
	"slices"
	"testing"

	"heartwood/api"
	"heartwood/model"
	"heartwood/partialretro"
)

// history has the updates of a log by their times.
type history map[int]api.Op

// run executes the updates; it returns the last state, or the time of the first one that fails, and its error.
func (h history) run(kind int) (api.State, int, api.Errno) {
	s, _ := model.New(kind)
	for _, time := range slices.Sorted(maps.Keys(h)) {
		var r api.Res
		s, r, _ = model.Apply(s, h[time])
		if r.Err != api.OK {
			return api.State{}, time, r.Err
		}
	}
	return s, 0, api.OK
}

// randomOp returns an operation of a kind with a code; it has one of a few arguments.
func randomOp(n *numbers, kind, code int) api.Op {
	for size := range 6 {
		o := api.Op{Code: code}
		for range size {
			o.Args = append(o.Args, n.below(4))
		}
		if model.ValidOp(kind, o) {
			return o
		}
	}
	return api.Op{}
}

func checkLog(t *testing.T, g *partialretro.Log, kind int, h history, n *numbers) {
	t.Helper()
	want, _, err := h.run(kind)
	if got := g.State(); err != api.OK || !model.Same(got, want) {
		t.Fatal(kind, h, got, want, err)
	}
	for code := 1; code <= 8; code++ {
		o := randomOp(n, kind, code)
		update, wrong := model.IsUpdate(kind, code)
		if wrong != api.OK {
			continue
		}
		r, err := g.Query(o)
		if update {
			if err != api.ErrShape || r.Err != api.OK || r.N != 0 {
				t.Fatal(kind, o, r, err)
			}
			continue
		}
		_, result, _ := model.Apply(want, o)
		if err != api.OK || r.Err != result.Err || r.N != result.N {
			t.Fatal(kind, o, r, err, result)
		}
	}
}

// P35.3 to P35.5: random changes of logs of all kinds, against runs of all operations.
func TestLogs(t *testing.T) {
	for kind := api.Dict; kind <= api.Text; kind++ {
		for _, times := range []int{6, 40, 300} {
			n := numbers(kind*10 + times)
			g, err := partialretro.NewLog(kind)
			if err != api.OK {
				t.Fatal(err)
			}
			h := history{}
			refused := 0
			for range 600 {
				time := n.below(times)
				next := maps.Clone(h)
				_, exists := h[time]
				want := api.OK
				if n.below(4) == 0 {
					delete(next, time)
					if !exists {
						want = api.ErrNone
					}
					err = g.Revoke(time)
				} else {
					o := randomOp(&n, kind, 1+n.below(8))
					update, none := model.IsUpdate(kind, o.Code)
					next[time] = o
					switch {
					case none != api.OK:
						want = api.ErrArg
					case !update:
						want = api.ErrShape
					case exists:
						want = api.ErrExists
					}
					err = g.Add(time, o)
				}
				failed, why := 0, api.OK
				if want == api.OK {
					if _, failed, why = next.run(kind); why != api.OK {
						want = api.ErrState
						refused++
					}
				}
				if err != want {
					t.Fatal(kind, h, next, err, want)
				}
				if at, e := g.Failed(); at != failed || e != why {
					t.Fatal(kind, next, at, e, failed, why)
				}
				if err == api.OK {
					h = next
				}
			}
			checkLog(t, g, kind, h, &n)
			if kind != api.Text && refused == 0 {
				t.Error("nothing was refused")
			}
		}
	}
}

func op(code int, args ...int) api.Op { return api.Op{Code: code, Args: args} }

func TestLogErrors(t *testing.T) {
	for _, kind := range []int{0, 7, -1, 1 << 40} {
		if g, err := partialretro.NewLog(kind); g != nil || err != api.ErrArg {
			t.Error(kind, err)
		}
	}
	g, _ := partialretro.NewLog(api.Heap)
	n := numbers(1)
	h := history{}
	expect := func(err, want api.Errno) {
		t.Helper()
		if err != want {
			t.Error(err, want)
		}
		checkLog(t, g, api.Heap, h, &n)
	}
	expect(g.Add(-1, op(api.HeapInsert)), api.ErrArg)
	expect(g.Add(-1, op(9)), api.ErrArg)
	expect(g.Add(-1, op(api.HeapMin)), api.ErrShape)
	for _, time := range []int{-1, api.MaxTime + 1, 1<<63 - 1, -1 << 63} {
		expect(g.Add(time, op(api.HeapDeleteMin)), api.ErrRange)
		expect(g.Revoke(time), api.ErrRange)
	}
	expect(g.Add(5, op(api.HeapDeleteMin)), api.ErrState)
	if at, err := g.Failed(); at != 5 || err != api.ErrEmpty {
		t.Error(at, err)
	}
	// Any further call makes it known no more.
	for _, f := range []func() api.Errno{
		func() api.Errno { return g.Revoke(3) },
		func() api.Errno { return g.Revoke(-3) },
		func() api.Errno { return g.Add(3, op(9)) },
		func() api.Errno { return g.Add(3, op(api.HeapInsert, 1)) },
	} {
		g.Add(5, op(api.HeapDeleteMin))
		f()
		if at, err := g.Failed(); at != 0 || err != api.OK {
			t.Error(at, err)
		}
	}
	h[3], h[5] = op(api.HeapInsert, 1), op(api.HeapDeleteMin)
	expect(g.Add(5, op(api.HeapDeleteMin)), api.OK)
	expect(g.Revoke(3), api.ErrState)
	if at, err := g.Failed(); at != 5 || err != api.ErrEmpty {
		t.Error(at, err)
	}
	if r, err := g.Query(op(api.HeapMin)); r.Err != api.ErrEmpty || err != api.OK {
		t.Error(r, err)
	}
	if at, err := g.Failed(); at != 5 || err != api.ErrEmpty {
		t.Error("a query has changed", at, err)
	}
	if r, err := g.Query(op(api.HeapMin, 1)); r.Err != api.OK || err != api.ErrArg {
		t.Error(r, err)
	}
	if r, err := g.Query(op(api.HeapDeleteMin)); r.Err != api.OK || err != api.ErrShape {
		t.Error(r, err)
	}
}

// A log with as many operations as there may be, changed at its ends and in the middle.
func TestLongLogs(t *testing.T) {
	g, _ := partialretro.NewLog(api.Sets)
	h := history{}
	n := numbers(1)
	add := func(time int, o api.Op, want api.Errno) {
		t.Helper()
		if err := g.Add(time, o); err != want {
			t.Fatal(time, o, err, want)
		}
		if want == api.OK {
			h[time] = o
		}
	}
	for i := range 500 {
		add(i, op(api.SetsMake), api.OK)
	}
	add(500, op(api.SetsMake), api.ErrState)
	if at, err := g.Failed(); at != 500 || err != api.ErrFull {
		t.Error(at, err)
	}
	for i := range 1498 {
		add(1000+3*i, op(api.SetsUnion, i%500, (i*7+3)%500), api.OK)
	}
	add(0, op(api.SetsMake), api.ErrExists)
	add(1001, op(api.SetsUnion, 498, 499), api.OK)
	add(api.MaxTime, op(api.SetsUnion, 499, 0), api.OK)
	add(600, op(api.SetsUnion, 1, 2), api.ErrFull)
	add(1001, op(api.SetsUnion, 1, 2), api.ErrExists)
	checkLog(t, g, api.Sets, h, &n)
	// Without one of the sets the first operation that uses the last one fails.
	if err := g.Revoke(250); err != api.ErrState {
		t.Error(err)
	}
	if at, err := g.Failed(); at != 1001 || err != api.ErrNone {
		t.Error(at, err)
	}
	for _, time := range []int{1000, 1001, api.MaxTime, 1003, 1006, 1009} {
		if err := g.Revoke(time); err != api.OK {
			t.Error(time, err)
		}
		delete(h, time)
	}
	checkLog(t, g, api.Sets, h, &n)
}

func TestLogSharing(t *testing.T) {
	g, _ := partialretro.NewLog(api.Seq)
	h := history{}
	n := numbers(2)
	for i := range 120 {
		o := op(api.SeqInsert, 0, i)
		g.Add(2*i, o)
		h[2*i] = op(api.SeqInsert, 0, i)
		o.Args[1] = 999
	}
	for _, row := range g.State().Rows {
		row[0] = 777
	}
	checkLog(t, g, api.Seq, h, &n)
	g.Add(3, op(api.SeqInsert, 1, 5))
	h[3] = op(api.SeqInsert, 1, 5)
	checkLog(t, g, api.Seq, h, &n)
	g.Revoke(3)
	delete(h, 3)
	checkLog(t, g, api.Seq, h, &n)
}

func TestNilLog(t *testing.T) {
	var g *partialretro.Log
	if g.Add(0, op(1)) != api.ErrArg || g.Revoke(-1) != api.ErrArg || g.State().Kind != 0 || g.State().Rows != nil {
		t.Error("values")
	}
	if r, err := g.Query(op(1)); r.Err != api.OK || err != api.ErrArg {
		t.Error(r, err)
	}
	if at, err := g.Failed(); at != 0 || err != api.ErrArg {
		t.Error(at, err)
	}
	g = &partialretro.Log{}
	if g.Add(0, op(1)) != api.ErrArg || g.Revoke(0) != api.ErrNone || g.State().Kind != 0 {
		t.Error("zero")
	}
}

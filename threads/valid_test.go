package threads_test

import (
	"slices"
	"testing"

	"heartwood/api"
	"heartwood/threads"
)

// isValid asks all functions with a state; they have to agree.
func isValid(t *testing.T, c api.Code, s api.Threads) bool {
	t.Helper()
	_, err := threads.Enabled(c, s)
	_, done, err1 := threads.Run(c, s, nil)
	if done != 0 {
		t.Fatal(done, err1)
	}
	_, err2 := threads.Finish(c, s)
	_, err3 := threads.Step(c, s, -1)
	_, err4 := threads.Next(c, s, 99)
	if (err == api.ErrArg) != (err1 == api.ErrArg) || (err == api.ErrArg) != (err2 == api.ErrArg) || (err == api.ErrArg) != (err3 == api.ErrArg) || (err == api.ErrArg) != (err4 == api.ErrArg) {
		t.Fatal(err, err1, err2, err3, err4)
	}
	return err == api.OK
}

// Every part of a state is changed.
func TestInvalidStates(t *testing.T) {
	c := compile(t, listText)
	s := start(t, c, api.Mem{Globals: []int{0, 0}}, 50, []api.Call{call("push", 1), call("add", 3), call("sum")}, []api.Call{call("none", 4), call("sum")}, nil)
	s, n, err := threads.Run(c, s, []int{0, 0, 0, 0, 1, 0, 1, 0})
	if n != 8 || err != api.OK || len(s.Results[0]) != 1 || len(s.Results[1]) != 1 || len(s.Running[0].Frames) != 1 || len(s.Running[1].Frames) != 1 {
		t.Fatal(n, err, s)
	}
	if !isValid(t, c, s) {
		t.Fatal(s)
	}
	accepted := []func(s *api.Threads){
		func(s *api.Threads) { s.Fuel = 0 }, func(s *api.Threads) { s.Fuel = api.MaxFuel }, func(s *api.Threads) { s.Step = api.MaxSteps }, func(s *api.Threads) { s.Nodes[0] = api.MaxInt },
		func(s *api.Threads) { s.Results[0][0] = api.Outcome{Fault: 99, Value: 1 << 62} }, func(s *api.Threads) { s.Calls[0] = nil }, func(s *api.Threads) { s.Calls[1] = slices.Repeat([]api.Call{call("sum")}, api.MaxOps-2) },
		func(s *api.Threads) { s.Running[0].Compares = 7 }, func(s *api.Threads) { s.Ends[0][0] = s.Begins[0][0] },
		func(s *api.Threads) { s.Running[1], s.Begins[1], s.Nodes[1] = api.Machine{}, s.Begins[1][:1], 0 },
	}
	for i, f := range accepted {
		x := clone(s)
		if f(&x); !isValid(t, c, x) {
			t.Error("accepted", i)
		}
	}
	refused := []func(s *api.Threads){
		func(s *api.Threads) { s.Mem.Globals = nil }, func(s *api.Threads) { s.Mem.Nodes[0].Type = 7 }, func(s *api.Threads) { s.Mem.Nodes[0].F = nil }, func(s *api.Threads) { s.Mem.Globals[1] = api.MaxInt + 1 },
		func(s *api.Threads) { s.Fuel = -1 }, func(s *api.Threads) { s.Fuel = api.MaxFuel + 1 }, func(s *api.Threads) { s.Step = -1 }, func(s *api.Threads) { s.Step = api.MaxSteps + 1 }, func(s *api.Threads) { s.Step = 7 },
		func(s *api.Threads) { s.Running = s.Running[:1] }, func(s *api.Threads) { s.Nodes = s.Nodes[:1] }, func(s *api.Threads) { s.Calls = append(s.Calls, nil) }, func(s *api.Threads) { s.Nodes[2] = 1 }, func(s *api.Threads) { s.Results = s.Results[:1] }, func(s *api.Threads) { s.Begins = s.Begins[:1] }, func(s *api.Threads) { s.Ends = append(s.Ends, nil) },
		func(s *api.Threads) { *s = api.Threads{Mem: s.Mem} },
		func(s *api.Threads) { s.Calls[0][0] = call("?") }, func(s *api.Threads) { s.Calls[0][0].Args = []int{1} }, func(s *api.Threads) { s.Calls[0] = []api.Call{call("push", 1<<50)} },
		func(s *api.Threads) { s.Calls[1] = slices.Repeat([]api.Call{call("sum")}, api.MaxOps-1) },
		func(s *api.Threads) { s.Running[0].Frames = nil }, func(s *api.Threads) { s.Running[0].Request.Kind = api.Done }, func(s *api.Threads) { s.Running[0].Frames[0].At++ }, func(s *api.Threads) { s.Running[0].Fuel = -1 },
		func(s *api.Threads) { s.Running[0] = api.Machine{Request: api.Request{Kind: api.Done}} }, func(s *api.Threads) { s.Running[0] = api.Machine{} }, func(s *api.Threads) { s.Running[1] = api.Machine{Fuel: 1} },
		func(s *api.Threads) { s.Running[2].Frames = s.Running[0].Frames }, func(s *api.Threads) { s.Running[2].Request.Kind = api.Done }, func(s *api.Threads) { s.Running[2].Request.Value = 1 }, func(s *api.Threads) { s.Running[2].Fuel = 1 }, func(s *api.Threads) { s.Running[2].Compares = 1 }, func(s *api.Threads) { s.Running[2].Idle = 1 }, func(s *api.Threads) { s.Running[2] = s.Running[0] },
		func(s *api.Threads) { s.Nodes[0] = -1 }, func(s *api.Threads) { s.Nodes[0] = api.MaxInt + 1 }, func(s *api.Threads) { s.Running[1], s.Begins[1], s.Nodes[1] = api.Machine{}, s.Begins[1][:1], 1 },
		func(s *api.Threads) { s.Results[0] = nil }, func(s *api.Threads) { s.Results[1] = append(s.Results[1], api.Outcome{}) }, func(s *api.Threads) { s.Ends[0] = nil }, func(s *api.Threads) { s.Begins[0] = s.Begins[0][:1] }, func(s *api.Threads) { s.Begins[1] = append(s.Begins[1], 7) },
		func(s *api.Threads) { s.Begins[0][0] = -1 }, func(s *api.Threads) { s.Begins[0][1] = 8 }, func(s *api.Threads) { s.Ends[0][0] = s.Begins[0][0] - 1 }, func(s *api.Threads) { s.Ends[0][0] = 8 }, func(s *api.Threads) {
			s.Running[1], s.Begins[1], s.Nodes[1], s.Ends[1][0] = api.Machine{}, s.Begins[1][:1], 0, 8
		}, func(s *api.Threads) { s.Ends[0][0] = s.Begins[0][1] }, func(s *api.Threads) { s.Begins[0][1] = s.Begins[0][0] },
	}
	for i, f := range refused {
		x := clone(s)
		if f(&x); isValid(t, c, x) {
			t.Error("refused", i)
		}
	}
	unsound := c
	unsound.Funcs = slices.Clone(c.Funcs)
	unsound.Funcs[0].Code = []api.Instr{{Op: api.IPop}}
	if isValid(t, unsound, s) || isValid(t, api.Code{}, s) || isValid(t, c, api.Threads{}) {
		t.Error("codes")
	}
	nine := start(t, c, api.Mem{Globals: []int{0, 0}}, 50, make([][]api.Call, 8)...)
	nine.Running, nine.Nodes, nine.Calls, nine.Results, nine.Begins, nine.Ends = make([]api.Machine, 9), make([]int, 9), make([][]api.Call, 9), make([][]api.Outcome, 9), make([][]int, 9), make([][]int, 9)
	if isValid(t, c, nine) {
		t.Error("too many threads")
	}
}

package stm_test

import (
	"slices"
	"testing"

	"heartwood/api"
	"heartwood/stm"
)

// isValid asks all functions with a state; they have to agree.
func isValid(t *testing.T, c api.Code, s api.Transactions) bool {
	t.Helper()
	_, err := stm.Enabled(c, s)
	_, done, err1 := stm.Run(c, s, nil)
	if done != 0 {
		t.Fatal(done, err1)
	}
	_, err2 := stm.Finish(c, s)
	_, err3 := stm.Step(c, s, -1)
	if (err == api.ErrArg) != (err1 == api.ErrArg) || (err == api.ErrArg) != (err2 == api.ErrArg) || (err == api.ErrArg) != (err3 == api.ErrArg) {
		t.Fatal(err, err1, err2, err3)
	}
	return err == api.OK
}

// Every part of a state is changed.
func TestInvalidStates(t *testing.T) {
	c := compile(t, listText)
	s := start(t, c, api.Mem{Globals: []int{0, 0}}, 50, []api.Call{call("push", 1), call("add", 3), call("sum")}, []api.Call{call("none", 4), call("add", 2), call("sum")}, []api.Call{call("sum")})
	s, n, err := stm.Run(c, s, []int{0, 0, 0, 0, 0, 0, 1, 1, 1, 0, 0})
	if n != 11 || err != api.OK || len(s.Results[0]) != 1 || len(s.Results[1]) != 1 || len(s.Active[0].Writes) != 1 || len(s.Active[1].Reads) != 1 || s.Clock != 1 {
		t.Fatal(n, err, s)
	}
	if !isValid(t, c, s) {
		t.Fatal(s)
	}
	accepted := []func(s *api.Transactions){
		func(s *api.Transactions) { s.Fuel = 0 }, func(s *api.Transactions) { s.Fuel = api.MaxFuel }, func(s *api.Transactions) { s.Step = api.MaxSteps }, func(s *api.Transactions) { s.Active[0].Nodes = api.MaxInt }, func(s *api.Transactions) { s.Clock = s.Step }, func(s *api.Transactions) { s.Aborts = s.Step },
		func(s *api.Transactions) { s.Results[0][0] = api.Outcome{Fault: 99, Value: 1 << 62} }, func(s *api.Transactions) { s.Calls[1] = slices.Repeat([]api.Call{call("sum")}, api.MaxOps-1) }, func(s *api.Transactions) { s.Active[0].Start = 0 },
		func(s *api.Transactions) { s.Active[0].Reads = [][2]int{{0, 0}, {0, 1}, {1, 1}} }, func(s *api.Transactions) { s.Active[0].Writes = [][3]int{{0, 1, api.MaxInt}, {1, 0, -api.MaxInt}} }, func(s *api.Transactions) { s.Versions[1][0] = 0 },
		func(s *api.Transactions) {
			s.Active[0].Running = api.Machine{Request: api.Request{Kind: api.Fail, Fault: api.ErrNil}}
		},
		func(s *api.Transactions) { s.Active[1], s.Begins[1] = api.Transaction{}, s.Begins[1][:1] },
	}
	for i, f := range accepted {
		x := clone(s)
		if f(&x); !isValid(t, c, x) {
			t.Error("accepted", i)
		}
	}
	refused := []func(s *api.Transactions){
		func(s *api.Transactions) { s.Mem.Globals = nil }, func(s *api.Transactions) { s.Mem.Nodes[0].Type = 7 }, func(s *api.Transactions) { s.Mem.Globals[1] = api.MaxInt + 1 }, func(s *api.Transactions) { s.Mem.Nodes = append(s.Mem.Nodes, s.Mem.Nodes[0]) },
		func(s *api.Transactions) { s.Versions = s.Versions[:1] }, func(s *api.Transactions) { s.Versions[0] = s.Versions[0][:1] }, func(s *api.Transactions) { s.Versions[1] = append(s.Versions[1], 0) }, func(s *api.Transactions) { s.Versions[1][0] = -1 }, func(s *api.Transactions) { s.Versions[1][1] = 2 }, func(s *api.Transactions) { s.Clock = 0 },
		func(s *api.Transactions) { s.Fuel = -1 }, func(s *api.Transactions) { s.Fuel = api.MaxFuel + 1 }, func(s *api.Transactions) { s.Step = -1 }, func(s *api.Transactions) { s.Step = api.MaxSteps + 1 }, func(s *api.Transactions) { s.Step = 9 }, func(s *api.Transactions) { s.Clock = s.Step + 1 }, func(s *api.Transactions) { s.Aborts = -1 }, func(s *api.Transactions) { s.Aborts = s.Step + 1 },
		func(s *api.Transactions) { s.Active = s.Active[:2] }, func(s *api.Transactions) { s.Calls = append(s.Calls, nil) }, func(s *api.Transactions) { s.Results = s.Results[:2] }, func(s *api.Transactions) { s.Begins = s.Begins[:2] }, func(s *api.Transactions) { s.Ends = append(s.Ends, nil) },
		func(s *api.Transactions) { *s = api.Transactions{Mem: s.Mem, Versions: s.Versions, Clock: 1, Step: 5} },
		func(s *api.Transactions) { s.Calls[0][0] = call("?") }, func(s *api.Transactions) { s.Calls[0][0].Args = nil }, func(s *api.Transactions) { s.Calls[0][1] = call("push", 1<<50) }, func(s *api.Transactions) { s.Calls[0] = nil }, func(s *api.Transactions) { s.Calls[1] = slices.Repeat([]api.Call{call("sum")}, api.MaxOps) },
		func(s *api.Transactions) { s.Active[0].Running = api.Machine{} }, func(s *api.Transactions) { s.Active[0].Running.Frames = nil }, func(s *api.Transactions) { s.Active[0].Running.Request.Kind = api.Done }, func(s *api.Transactions) { s.Active[0].Running.Frames[0].At++ },
		func(s *api.Transactions) { s.Active[0].Start = -1 }, func(s *api.Transactions) { s.Active[0].Start = 2 }, func(s *api.Transactions) { s.Active[0].Nodes = -1 }, func(s *api.Transactions) { s.Active[0].Nodes = api.MaxInt + 1 },
		func(s *api.Transactions) { s.Active[0].Reads = [][2]int{{0, 0}, {0, 0}} }, func(s *api.Transactions) { s.Active[0].Reads = [][2]int{{0, 2}} }, func(s *api.Transactions) { s.Active[0].Reads = [][2]int{{2, 0}} }, func(s *api.Transactions) { s.Active[0].Reads = [][2]int{{-1, 0}} }, func(s *api.Transactions) { s.Active[0].Reads = [][2]int{{1, -1}} }, func(s *api.Transactions) { s.Active[0].Reads = [][2]int{{1, 2}} },
		func(s *api.Transactions) { s.Active[0].Writes = [][3]int{{0, 0, 1}, {0, 0, 2}} }, func(s *api.Transactions) { s.Active[0].Writes = [][3]int{{0, 2, 1}} }, func(s *api.Transactions) { s.Active[0].Writes = [][3]int{{2, 0, 1}} }, func(s *api.Transactions) { s.Active[0].Writes = [][3]int{{0, 1, api.MaxInt + 1}} }, func(s *api.Transactions) { s.Active[0].Writes = [][3]int{{0, 1, -api.MaxInt - 1}} },
		func(s *api.Transactions) { s.Active[2].Start = 1 }, func(s *api.Transactions) { s.Active[2].Nodes = 1 }, func(s *api.Transactions) { s.Active[2].Reads = [][2]int{{0, 0}} }, func(s *api.Transactions) { s.Active[2].Writes = [][3]int{{0, 0, 0}} }, func(s *api.Transactions) { s.Active[2].Running.Idle = 1 }, func(s *api.Transactions) { s.Active[2] = s.Active[0] },
		func(s *api.Transactions) { s.Results[0] = nil }, func(s *api.Transactions) { s.Results[1] = append(s.Results[1], api.Outcome{}) }, func(s *api.Transactions) { s.Ends[0] = nil }, func(s *api.Transactions) { s.Begins[0] = s.Begins[0][:1] }, func(s *api.Transactions) { s.Begins[1] = append(s.Begins[1], 9) },
		func(s *api.Transactions) { s.Begins[0][0] = -1 }, func(s *api.Transactions) { s.Begins[0][1] = 11 }, func(s *api.Transactions) { s.Ends[0][0] = s.Begins[0][0] - 1 }, func(s *api.Transactions) { s.Ends[0][0] = 11 }, func(s *api.Transactions) {
			s.Active[1], s.Begins[1], s.Ends[1][0] = api.Transaction{}, s.Begins[1][:1], 11
		}, func(s *api.Transactions) { s.Ends[0][0] = s.Begins[0][1] },
		func(s *api.Transactions) { s.Order = nil }, func(s *api.Transactions) { s.Order = append(s.Order, [2]int{2, 0}) }, func(s *api.Transactions) { s.Order = append(s.Order, [2]int{0, 0}) }, func(s *api.Transactions) { s.Order = append(s.Order, [2]int{0, 1}) }, func(s *api.Transactions) { slices.Reverse(s.Order) },
		func(s *api.Transactions) { s.Order[0] = [2]int{-1, 0} }, func(s *api.Transactions) { s.Order[0] = [2]int{3, 0} }, func(s *api.Transactions) { s.Order[0] = [2]int{0, -1} }, func(s *api.Transactions) { s.Ends[1][0] = s.Ends[0][0] },
		func(s *api.Transactions) { s.Begins[1][0], s.Ends[1][0] = 2, s.Ends[0][0] }, func(s *api.Transactions) { s.Begins[1][0], s.Ends[1][0] = 2, s.Ends[0][0]-1 },
	}
	for i, f := range refused {
		x := clone(s)
		if f(&x); isValid(t, c, x) {
			t.Error("refused", i)
		}
	}
	unsound := c
	unsound.Funcs = slices.Clone(c.Funcs)
	unsound.Funcs[0].Code = []api.Instr{{Op: api.IPop}}
	if isValid(t, unsound, s) || isValid(t, api.Code{}, s) || isValid(t, c, api.Transactions{}) {
		t.Error("codes")
	}
	nine := start(t, c, api.Mem{Globals: []int{0, 0}}, 50, make([][]api.Call, 8)...)
	nine.Active, nine.Calls, nine.Results, nine.Begins, nine.Ends = make([]api.Transaction, 9), make([][]api.Call, 9), make([][]api.Outcome, 9), make([][]int, 9), make([][]int, 9)
	if isValid(t, c, nine) {
		t.Error("too many threads")
	}
}

package threads

import (
	"slices"

	"heartwood/api"
	"heartwood/machine"
	"heartwood/vm"
)

// isValid reports whether a code is sound, and a state valid for it.
func isValid(c api.Code, s api.Threads) bool {
	n := len(s.Running)
	if !machine.IsSound(c) || !machine.Fits(c, s.Mem) || s.Fuel < 0 || s.Fuel > api.MaxFuel || s.Step < 0 || s.Step > api.MaxSteps || n < 1 || n > api.MaxThreads ||
		len(s.Nodes) != n || len(s.Calls) != n || len(s.Results) != n || len(s.Begins) != n || len(s.Ends) != n {
		return false
	}
	for thread := range n {
		if !isValidThread(c, s, thread) {
			return false
		}
	}
	return true
}

func isValidThread(c api.Code, s api.Threads, thread int) bool {
	running := 1
	switch m := s.Running[thread]; {
	case isZero(m):
		if running = 0; s.Nodes[thread] != 0 {
			return false
		}
	case m.Request.Kind >= api.Done || !vm.Valid(c, m) || s.Nodes[thread] < 0 || s.Nodes[thread] > api.MaxInt:
		return false
	}
	calls, done := s.Calls[thread], len(s.Results[thread])
	if slices.ContainsFunc(calls, func(x api.Call) bool { return machine.Check(c, x) != api.OK }) || len(calls)+done+running > api.MaxOps {
		return false
	}
	return len(s.Ends[thread]) == done && len(s.Begins[thread]) == done+running && machine.AreTimes(s.Begins[thread], s.Ends[thread], s.Step)
}

func isZero(m api.Machine) bool {
	return len(m.Frames) == 0 && m.Request == api.Request{} && m.Fuel == 0 && m.Compares == 0 && m.Idle == 0
}

package stm

import (
	"slices"

	"heartwood/api"
	"heartwood/machine"
	"heartwood/vm"
)

// isValid reports whether a code is sound, and a state valid for it.
func isValid(c api.Code, s api.Transactions) bool {
	n := len(s.Active)
	if !machine.IsSound(c) || !machine.Fits(c, s.Mem) || s.Fuel < 0 || s.Fuel > api.MaxFuel || s.Step < 0 || s.Step > api.MaxSteps ||
		s.Clock < 0 || s.Clock > s.Step || s.Aborts < 0 || s.Aborts > s.Step || !areVersions(s) ||
		n < 1 || n > api.MaxThreads || len(s.Calls) != n || len(s.Results) != n || len(s.Begins) != n || len(s.Ends) != n {
		return false
	}
	for thread := range n {
		if !isValidThread(c, s, thread) {
			return false
		}
	}
	return isOrder(s)
}

func areVersions(s api.Transactions) bool {
	if len(s.Versions) != len(s.Mem.Nodes)+1 {
		return false
	}
	for node, l := range s.Versions {
		if len(l) != len(machine.Values(s.Mem, node)) || slices.ContainsFunc(l, func(v int) bool { return v < 0 || v > s.Clock }) {
			return false
		}
	}
	return true
}

func isValidThread(c api.Code, s api.Transactions, thread int) bool {
	x, calls, done := s.Active[thread], s.Calls[thread], len(s.Results[thread])
	running := 0
	if !isZero(x) {
		running = 1
		if len(calls) == 0 || !isTransaction(c, s, x) {
			return false
		}
	}
	if slices.ContainsFunc(calls, func(x api.Call) bool { return machine.Check(c, x) != api.OK }) || len(calls)+done > api.MaxOps {
		return false
	}
	return len(s.Ends[thread]) == done && len(s.Begins[thread]) == done+running && machine.AreTimes(s.Begins[thread], s.Ends[thread], s.Step)
}

func isZero(x api.Transaction) bool {
	m := x.Running
	return len(m.Frames) == 0 && m.Request == api.Request{} && m.Fuel == 0 && m.Compares == 0 && m.Idle == 0 &&
		x.Start == 0 && x.Nodes == 0 && len(x.Reads) == 0 && len(x.Writes) == 0
}

func isTransaction(c api.Code, s api.Transactions, x api.Transaction) bool {
	if !vm.Valid(c, x.Running) || x.Start < 0 || x.Start > s.Clock || x.Nodes < 0 || x.Nodes > api.MaxInt {
		return false
	}
	var writes [][2]int
	for _, w := range x.Writes {
		if !machine.IsValue(w[2]) {
			return false
		}
		writes = append(writes, [2]int{w[0], w[1]})
	}
	return arePlaces(s.Mem, x.Reads) && arePlaces(s.Mem, writes)
}

// arePlaces reports whether a list has different places of a memory.
func arePlaces(m api.Mem, l [][2]int) bool {
	seen := map[[2]int]bool{}
	for _, p := range l {
		if p[0] < 0 || p[0] > len(m.Nodes) || p[1] < 0 || p[1] >= len(machine.Values(m, p[0])) || seen[p] {
			return false
		}
		seen[p] = true
	}
	return true
}

// isOrder reports whether the order has the calls that are done, those of each thread in order, by ascending ends.
func isOrder(s api.Transactions) bool {
	next := make([]int, len(s.Active))
	last := -1
	for _, o := range s.Order {
		thread := o[0]
		if thread < 0 || thread >= len(next) || o[1] != next[thread] || o[1] >= len(s.Ends[thread]) || s.Ends[thread][o[1]] <= last {
			return false
		}
		last = s.Ends[thread][o[1]]
		next[thread]++
	}
	for thread, n := range next {
		if n != len(s.Results[thread]) {
			return false
		}
	}
	return true
}

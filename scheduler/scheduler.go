// Package scheduler does steps of threads whose states have been checked, for threads and explore.
package scheduler

import (
	"slices"

	"heartwood/api"
	"heartwood/copies"
	"heartwood/machine"
)

// Copied returns a copy of a state.
func Copied(s api.Threads) api.Threads {
	s.Mem = copies.Mem(s.Mem)
	s.Running = copies.Each(s.Running, copies.Machine)
	s.Nodes = slices.Clone(s.Nodes)
	s.Calls = copies.Calls(s.Calls)
	s.Results = copies.Each(s.Results, slices.Clone[[]api.Outcome])
	s.Begins = copies.Each(s.Begins, slices.Clone[[]int])
	s.Ends = copies.Each(s.Ends, slices.Clone[[]int])
	return s
}

// IsRunning reports whether a thread is running a call.
func IsRunning(s api.Threads, thread int) bool { return len(s.Running[thread].Frames) > 0 }

// IsEnabled reports whether a thread can do a step.
func IsEnabled(s api.Threads, thread int) bool {
	return IsRunning(s, thread) || len(s.Calls[thread]) > 0
}

// Enabled returns the threads that can do a step, ascending.
func Enabled(s api.Threads) []int {
	var l []int
	for thread := range s.Running {
		if IsEnabled(s, thread) {
			l = append(l, thread)
		}
	}
	return l
}

// Next returns the access that a step of an enabled thread would make; the zero access if it would make none.
func Next(c api.Code, s api.Threads, thread int) api.Access {
	m := s.Running[thread]
	if !IsRunning(s, thread) {
		m = machine.Start(c, s.Calls[thread][0], s.Fuel)
	}
	if m.Request.Kind >= api.Done {
		return api.Access{}
	}
	a, _ := machine.Find(s.Mem, m.Request)
	return a
}

// Step does a step of an enabled thread, which changes the state.
func Step(c api.Code, s *api.Threads, thread int) {
	m := &s.Running[thread]
	if !IsRunning(*s, thread) {
		*m = machine.Start(c, s.Calls[thread][0], s.Fuel)
		s.Calls[thread] = s.Calls[thread][1:]
		s.Begins[thread] = append(s.Begins[thread], s.Step)
	}
	if m.Request.Kind < api.Done {
		access(c, s, thread)
	}
	if q := m.Request; q.Kind >= api.Done {
		o := api.Outcome{Fault: q.Fault, Value: q.Value, Cost: api.Cost{Compares: m.Compares, Nodes: s.Nodes[thread]}}
		s.Results[thread] = append(s.Results[thread], o)
		s.Ends[thread] = append(s.Ends[thread], s.Step)
		s.Running[thread], s.Nodes[thread] = api.Machine{}, 0
	}
	s.Step++
}

// access makes the access that a thread asks for, after which this runs up to its next request.
func access(c api.Code, s *api.Threads, thread int) {
	m := &s.Running[thread]
	n, a, ok := machine.Access(c, &s.Mem, m.Request)
	if !ok {
		m.Request = api.Request{Kind: api.Fail, Fault: api.ErrType}
		return
	}
	if a.Node > 0 {
		s.Nodes[thread]++
	}
	machine.Answer(c, m, n)
}

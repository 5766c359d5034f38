package stm

import (
	"slices"

	"heartwood/api"
	"heartwood/copies"
	"heartwood/machine"
)

// copied returns a copy of a state.
func copied(s api.Transactions) api.Transactions {
	s.Mem = copies.Mem(s.Mem)
	s.Versions = copies.Each(s.Versions, slices.Clone[[]int])
	s.Active = copies.Each(s.Active, func(x api.Transaction) api.Transaction {
		x.Running, x.Reads, x.Writes = copies.Machine(x.Running), slices.Clone(x.Reads), slices.Clone(x.Writes)
		return x
	})
	s.Calls = copies.Calls(s.Calls)
	s.Results = copies.Each(s.Results, slices.Clone[[]api.Outcome])
	s.Begins = copies.Each(s.Begins, slices.Clone[[]int])
	s.Ends = copies.Each(s.Ends, slices.Clone[[]int])
	s.Order = slices.Clone(s.Order)
	return s
}

// isRunning reports whether a thread runs a call: then its machine has a request.
func isRunning(x api.Transaction) bool { return x.Running.Request.Kind != 0 }

// step does a step of an enabled thread.
func step(c api.Code, s *api.Transactions, thread int) {
	fresh := !isRunning(s.Active[thread])
	if fresh {
		s.Begins[thread] = append(s.Begins[thread], s.Step)
		begin(c, s, thread)
	}
	if s.Active[thread].Running.Request.Kind < api.Done {
		access(c, s, thread)
	} else if !fresh {
		commit(c, s, thread)
	}
	s.Step++
}

// begin begins the next call of a thread, or begins it again.
func begin(c api.Code, s *api.Transactions, thread int) {
	s.Active[thread] = api.Transaction{Running: machine.Start(c, s.Calls[thread][0], s.Fuel), Start: s.Clock}
}

// access makes the access that a call asks for.
func access(c api.Code, s *api.Transactions, thread int) {
	x := &s.Active[thread]
	q := x.Running.Request
	a, ok := machine.Find(s.Mem, q)
	if !ok {
		x.Running.Request = api.Request{Kind: api.Fail, Fault: api.ErrType}
		commit(c, s, thread)
		return
	}
	if a.Node > 0 {
		x.Nodes++
	}
	answer := 0
	switch a.Kind {
	case api.Alloc:
		answer, _, _ = machine.Access(c, &s.Mem, q)
		s.Versions = append(s.Versions, make([]int, c.Fields[q.Field]))
	case api.Read:
		answer = read(s.Mem, x, a)
	case api.Write:
		write(x, a, q.Value)
	}
	machine.Answer(c, &x.Running, answer)
}

// written returns the index in Writes of a place, or -1.
func written(x *api.Transaction, a api.Access) int {
	return slices.IndexFunc(x.Writes, func(w [3]int) bool { return w[0] == a.Node && w[1] == a.Field })
}

func read(m api.Mem, x *api.Transaction, a api.Access) int {
	if i := written(x, a); i >= 0 {
		return x.Writes[i][2]
	}
	if place := [2]int{a.Node, a.Field}; !slices.Contains(x.Reads, place) {
		x.Reads = append(x.Reads, place)
	}
	return machine.Values(m, a.Node)[a.Field]
}

func write(x *api.Transaction, a api.Access, value int) {
	if i := written(x, a); i >= 0 {
		x.Writes[i][2] = value
	} else {
		x.Writes = append(x.Writes, [3]int{a.Node, a.Field, value})
	}
}

// commit ends the call of a thread, or begins it again, if something that it has read was written since it began.
func commit(c api.Code, s *api.Transactions, thread int) {
	x := s.Active[thread]
	if slices.ContainsFunc(x.Reads, func(r [2]int) bool { return s.Versions[r[0]][r[1]] > x.Start }) {
		s.Aborts++
		begin(c, s, thread)
		return
	}
	q := x.Running.Request
	if q.Fault == api.OK && len(x.Writes) > 0 {
		s.Clock++
		for _, w := range x.Writes {
			machine.Values(s.Mem, w[0])[w[1]] = w[2]
			s.Versions[w[0]][w[1]] = s.Clock
		}
	}
	o := api.Outcome{Fault: q.Fault, Value: q.Value, Cost: api.Cost{Compares: x.Running.Compares, Nodes: x.Nodes}}
	s.Order = append(s.Order, [2]int{thread, len(s.Results[thread])})
	s.Results[thread] = append(s.Results[thread], o)
	s.Ends[thread] = append(s.Ends[thread], s.Step)
	s.Calls[thread] = s.Calls[thread][1:]
	s.Active[thread] = api.Transaction{}
}

package equivalence

import (
	"heartwood/api"
	"heartwood/bytecode"
	"heartwood/confluent"
	"heartwood/eval"
	"heartwood/external"
	"heartwood/guard"
	"heartwood/heap"
	"heartwood/library"
	"heartwood/persistent"
	"heartwood/rollback"
	"heartwood/stm"
	"heartwood/vm"
)

const (
	fuel     = 100000
	capacity = 8 // blocks of the cache
)

// structure is a structure of the library that is run in one of several ways, with what the last call without a fault has
// left.
type structure struct {
	name    string
	call    func(api.Call) api.Outcome
	d       api.Desc
	code    api.Code
	mem     api.Mem
	size    int   // of blocks
	place   []int // the placement of the memory
	version int
	full    *persistent.Store
	melded  *confluent.Store
	undone  *rollback.Store
}

// way is a way to run a structure: how it does a call, and keeps what this leaves unless it faults.
type way struct {
	name string
	call func(api.Call) api.Outcome
}

func (s *structure) ways() []way {
	return []way{
		{"plain", s.plain}, {"compiled", s.compiled}, {"guarded", s.guarded}, {"persistent", s.persistent},
		{"rollback", s.rollback}, {"confluent", s.confluent}, {externalName, s.external}, {"stm", s.transactions},
	}
}

// newStructure returns the structure that a valid variant runs, without elements.
func newStructure(v api.Variant) *structure {
	s := &structure{name: v.Base, size: v.N}
	s.d, _ = library.Load(v.Base)
	s.code, _ = bytecode.Compile(s.d)
	s.mem, _ = heap.New(s.d)
	s.full, _ = persistent.New(s.d)
	s.melded, _ = confluent.New(s.d)
	s.undone, _ = rollback.New(s.d, s.mem)
	for _, w := range s.ways() {
		if w.name == v.Name {
			s.call = w.call
		}
	}
	return s
}

// do does an operation that the structure has.
func (s *structure) do(o api.Op) (api.Res, api.Cost) {
	c, _ := library.Bind(s.name, o)
	x := s.call(c)
	r, _ := library.Result(s.name, o, x)
	return r, x.Cost
}

// keep keeps the memory after a call, unless it has faulted, and returns the outcome.
func (s *structure) keep(o api.Outcome, after api.Mem) api.Outcome {
	if o.Fault == api.OK {
		s.mem = after
	}
	return o
}

func (s *structure) plain(c api.Call) api.Outcome {
	o, after, _ := eval.Run(s.d, s.mem, c, fuel)
	return s.keep(o, after)
}

func (s *structure) compiled(c api.Call) api.Outcome {
	o, after, _ := vm.Run(s.code, s.mem, c, fuel)
	return s.keep(o, after)
}

func (s *structure) guarded(c api.Call) api.Outcome {
	var invariants []string
	for _, x := range s.d.Invariants {
		invariants = append(invariants, x.Name)
	}
	o, after, _, _ := guard.Run(s.d, s.mem, c, invariants, fuel)
	return s.keep(o, after)
}

func (s *structure) persistent(c api.Call) api.Outcome {
	version, o, _ := s.full.Call(s.version, c, fuel)
	return s.keepVersion(o, version)
}

func (s *structure) confluent(c api.Call) api.Outcome {
	version, o, _ := s.melded.Call(s.version, c, fuel)
	return s.keepVersion(o, version)
}

func (s *structure) keepVersion(o api.Outcome, version int) api.Outcome {
	if o.Fault == api.OK {
		s.version = version
	}
	return o
}

func (s *structure) rollback(c api.Call) api.Outcome {
	o, _ := s.undone.Atomic(c, fuel)
	return o
}

func (s *structure) external(c api.Call) api.Outcome {
	o, after, place, _ := external.Run(s.d, s.mem, s.place, s.size, capacity, c, fuel)
	if o.Fault == api.OK {
		s.place = place
	}
	return s.keep(o, after)
}

// transactions runs the next call of the one thread. It does nothing else at the same time, so that its calls can be run
// one by one; all together they may have more steps than a state can count.
func (s *structure) transactions(c api.Call) api.Outcome {
	state, _ := stm.New(s.code, s.mem, [][]api.Call{{c}}, fuel)
	state, err := stm.Finish(s.code, state)
	if err != api.OK {
		return api.Outcome{Fault: err}
	}
	return s.keep(state.Results[0][0], state.Mem)
}

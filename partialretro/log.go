package partialretro

import (
	"slices"

	"heartwood/api"
	"heartwood/model"
)

// interval is how many operations are executed from one saved state to the next one.
const interval = 50

// Log is a list of updates of a kind whose past can be changed.
type Log struct {
	kind      int
	ops       []logOp     // in the order of their times
	saved     []api.State // after each full interval, from the state without elements on
	state     api.State
	failedAt  int
	failedFor api.Errno
}

// logOp is an operation of a log.
type logOp struct {
	time int
	op   api.Op
}

func timeOfLogOp(o logOp) int { return o.time }

// NewLog returns a log without operations.
func NewLog(kind int) (*Log, api.Errno) {
	s, err := model.New(kind)
	if err != api.OK {
		return nil, err
	}
	return &Log{kind: kind, saved: []api.State{s}, state: s}, api.OK
}

// Add adds an operation.
func (g *Log) Add(time int, o api.Op) api.Errno {
	if g == nil {
		return api.ErrArg
	}
	g.failedAt, g.failedFor = 0, api.OK
	if err := g.check(o, true); err != api.OK {
		return err
	}
	i, err := place(g.ops, time, timeOfLogOp)
	if err != api.OK {
		return err
	}
	added := logOp{time, api.Op{Code: o.Code, Args: slices.Clone(o.Args)}}
	return g.replace(i, slices.Insert(slices.Clone(g.ops), i, added))
}

// check returns an error unless an operation is valid, and an update or a query, as it is asked for.
func (g *Log) check(o api.Op, update bool) api.Errno {
	if !model.ValidOp(g.kind, o) {
		return api.ErrArg
	}
	if is, _ := model.IsUpdate(g.kind, o.Code); is != update {
		return api.ErrShape
	}
	return api.OK
}

// Revoke removes the operation at a time.
func (g *Log) Revoke(time int) api.Errno {
	if g == nil {
		return api.ErrArg
	}
	g.failedAt, g.failedFor = 0, api.OK
	i, err := find(g.ops, time, timeOfLogOp)
	if err != api.OK {
		return err
	}
	return g.replace(i, slices.Delete(slices.Clone(g.ops), i, i+1))
}

// replace replaces the operations by others that differ from them from an index on, unless one of these fails.
func (g *Log) replace(from int, ops []logOp) api.Errno {
	saved := slices.Clone(g.saved[:from/interval+1])
	for {
		done := (len(saved) - 1) * interval
		end := min(done+interval, len(ops))
		state, results, _ := model.Run(saved[len(saved)-1], operations(ops[done:end]))
		if k := slices.IndexFunc(results, func(r api.Res) bool { return r.Err != api.OK }); k >= 0 {
			g.failedAt, g.failedFor = ops[done+k].time, results[k].Err
			return api.ErrState
		}
		if end < done+interval {
			g.ops, g.saved, g.state = ops, saved, state
			return api.OK
		}
		saved = append(saved, state)
	}
}

func operations(l []logOp) []api.Op {
	var ops []api.Op
	for _, o := range l {
		ops = append(ops, o.op)
	}
	return ops
}

// Query returns the result of a query in the state now.
func (g *Log) Query(o api.Op) (api.Res, api.Errno) {
	if g == nil {
		return api.Res{}, api.ErrArg
	}
	if err := g.check(o, false); err != api.OK {
		return api.Res{}, err
	}
	_, result, err := model.Apply(g.state, o)
	return result, err
}

// State returns the state now.
func (g *Log) State() api.State {
	if g == nil {
		return api.State{}
	}
	s, _, _ := model.Run(g.state, nil)
	return s
}

// Failed returns the time of the first operation that would have failed after the last change, and its error, if the
// change was refused for that.
func (g *Log) Failed() (int, api.Errno) {
	if g == nil {
		return 0, api.ErrArg
	}
	return g.failedAt, g.failedFor
}

package fullretro_test

import (
	"maps"
	"slices"
	"testing"

	"heartwood/api"
	"heartwood/fullretro"
	"heartwood/library"
	"heartwood/model"
)

// numbers yields numbers by a fixed rule.
type numbers int

func (n *numbers) below(limit int) int {
	*n = *n * 48271 % 2147483647
	return int(*n) % limit
}

func op(code int, args ...int) api.Op { return api.Op{Code: code, Args: args} }

// randomOp returns an operation of a kind with a code.
func (n *numbers) op(kind, code int) api.Op {
	for size := range 5 {
		o := api.Op{Code: code}
		for range size {
			o.Args = append(o.Args, n.below(12))
		}
		if model.ValidOp(kind, o) {
			return o
		}
	}
	return api.Op{Code: code}
}

// tester has a timeline, and its operations by their times.
type tester struct {
	t    *testing.T
	name string
	kind int
	line *fullretro.Timeline
	ops  map[int]api.Op
}

func newTester(t *testing.T, name string) *tester {
	t.Helper()
	line, err := fullretro.New(name)
	if err != api.OK || line == nil || line.Replayed() != 0 {
		t.Fatal(name, err)
	}
	kind, _ := library.Kind(name)
	r := &tester{t, name, kind, line, map[int]api.Op{}}
	r.check()
	return r
}

func (r *tester) times() []int { return slices.Sorted(maps.Keys(r.ops)) }

// state executes the operations up to a time by the model; it also returns the failures.
func (r *tester) state(time int) (api.State, []int) {
	s, _ := model.New(r.kind)
	var failures []int
	for _, at := range r.times() {
		if at > time {
			break
		}
		next, res, _ := model.Apply(s, r.ops[at])
		if res.Err != api.OK {
			failures = append(failures, at)
		}
		s = next
	}
	return s, failures
}

// errorOf returns the error of an operation that is asked for as an update, or as a query.
func (r *tester) errorOf(o api.Op, update bool) api.Errno {
	if !model.ValidOp(r.kind, o) {
		return api.ErrArg
	}
	if is, _ := model.IsUpdate(r.kind, o.Code); is != update {
		return api.ErrShape
	}
	_, err := library.Bind(r.name, o)
	return err
}

func (r *tester) add(time int, o api.Op) {
	r.t.Helper()
	want := r.errorOf(o, true)
	_, exists := r.ops[time]
	switch {
	case want != api.OK:
	case time < 0 || time > api.MaxTime:
		want = api.ErrRange
	case exists:
		want = api.ErrExists
	case len(r.ops) == 140:
		want = api.ErrFull
	}
	if err := r.line.Add(time, o); err != want {
		r.t.Fatal(r.name, time, o, err, want)
	}
	if want == api.OK {
		r.ops[time] = api.Op{Code: o.Code, Args: slices.Clone(o.Args)}
		r.checkReplayed(len(r.ops) + 16)
	}
}

func (r *tester) revoke(time int) {
	r.t.Helper()
	want := api.OK
	if _, exists := r.ops[time]; time < 0 || time > api.MaxTime {
		want = api.ErrRange
	} else if !exists {
		want = api.ErrNone
	}
	if err := r.line.Revoke(time); err != want {
		r.t.Fatal(r.name, time, err, want)
	}
	if want == api.OK {
		delete(r.ops, time)
		r.checkReplayed(len(r.ops) + 16)
	}
}

func (r *tester) checkReplayed(most int) {
	r.t.Helper()
	if n := r.line.Replayed(); n < 0 || n > most {
		r.t.Fatal("Replayed", n, most)
	}
}

// ask asks for the state at a time, and for a query.
func (r *tester) ask(time int, o api.Op) {
	r.t.Helper()
	want, _ := r.state(time)
	s, err := r.line.State(time)
	if time < 0 || time > api.MaxTime {
		if err != api.ErrRange || s.Kind != 0 || s.Rows != nil {
			r.t.Fatal(r.name, time, s, err)
		}
	} else if !model.Same(s, want) || err != api.OK {
		r.t.Fatal(r.name, time, s, err, want)
	} else {
		r.checkReplayed(16)
	}
	wrong := r.errorOf(o, false)
	if wrong == api.OK && (time < 0 || time > api.MaxTime) {
		wrong = api.ErrRange
	}
	res, err := r.line.Query(time, o)
	if wrong != api.OK {
		if res.Err != api.OK || res.N != 0 || err != wrong {
			r.t.Fatal(r.name, time, o, res, err, wrong)
		}
		return
	}
	_, result, _ := model.Apply(want, o)
	if res.Err != result.Err || res.N != result.N || len(res.L) != 0 || err != api.OK {
		r.t.Fatal(r.name, time, o, res, err, result)
	}
	r.checkReplayed(16)
}

// check checks what is told of all operations.
func (r *tester) check() {
	r.t.Helper()
	times, ops := r.line.Ops()
	if r.line.Len() != len(r.ops) || !slices.Equal(times, r.times()) || len(ops) != len(times) {
		r.t.Fatal(r.name, times, r.times())
	}
	for i, time := range times {
		if ops[i].Code != r.ops[time].Code || !slices.Equal(ops[i].Args, r.ops[time].Args) {
			r.t.Fatal(r.name, time, ops[i], r.ops[time])
		}
	}
	if _, failures := r.state(api.MaxTime); !slices.Equal(r.line.Failures(), failures) {
		r.t.Fatal(r.name, r.line.Failures(), failures)
	}
	points := r.line.Checkpoints()
	since := 0
	for _, time := range times {
		since++
		if len(points) > 0 && points[0] == time {
			points = points[1:]
			since = 0
		}
		if since > 16 {
			r.t.Fatal("too few checkpoints", r.line.Checkpoints())
		}
	}
	if len(points) > 0 {
		r.t.Fatal(r.line.Checkpoints())
	}
}

// P39.1 to P39.5: random changes of all structures, against the model.
func TestTimelines(t *testing.T) {
	for _, name := range library.Names() {
		for _, times := range []int{15, 90} {
			r := newTester(t, name)
			n := numbers(len(name) + times)
			for round := range 150 {
				if n.below(4) == 0 {
					r.revoke(n.below(times+2) - 1)
				} else {
					r.add(n.below(times+2)-1, n.op(r.kind, n.below(9)))
				}
				if round%5 == 0 {
					r.check()
					r.ask(n.below(times+2)-1, n.op(r.kind, n.below(9)))
				}
			}
			for time := -1; time <= times; time++ {
				r.ask(time, n.op(r.kind, 1+n.below(8)))
			}
			for _, time := range []int{api.MaxTime, api.MaxTime + 1, 1<<63 - 1, -1 << 63} {
				r.ask(time, n.op(r.kind, 1+n.below(8)))
				r.revoke(time)
			}
			r.check()
		}
	}
}

// As many operations as there may be; the order in which they are added does not matter.
func TestFullTimelines(t *testing.T) {
	for _, name := range []string{"bst", "rope", "unionfind", "pairing"} {
		r := newTester(t, name)
		n := numbers(3)
		for i := range 140 {
			o := op(1, i*37%140, i)
			switch r.kind {
			case api.Heap:
				o.Args = o.Args[:1]
			case api.Sets:
				o.Args = nil
			case api.Seq:
				o.Args[0] = 0
			}
			r.add(i*51%140*7, o)
		}
		r.check()
		r.add(5, n.op(r.kind, 1))
		r.add(7, n.op(r.kind, 1))
		for time := 0; time < 1000; time += 41 {
			r.ask(time, n.op(r.kind, 2+n.below(6)))
		}
		r.revoke(7 * 100)
		r.add(api.MaxTime, n.op(r.kind, 1))
		r.add(0, n.op(r.kind, 1))
		r.ask(api.MaxTime, n.op(r.kind, 4))
		before, _ := r.line.State(500)
		r.revoke(7)
		r.add(3, n.op(r.kind, 2))
		r.revoke(3)
		r.add(7, r.op140(7))
		if after, _ := r.line.State(500); !model.Same(before, after) {
			t.Error(name)
		}
		r.check()
	}
}

// op140 returns the operation that TestFullTimelines adds at a time.
func (r *tester) op140(time int) api.Op {
	for i := range 140 {
		if i*51%140*7 == time {
			switch r.kind {
			case api.Heap:
				return op(1, i*37%140)
			case api.Sets:
				return op(1)
			case api.Seq:
				return op(1, 0, i)
			}
			return op(1, i*37%140, i)
		}
	}
	return api.Op{}
}

func TestExample(t *testing.T) {
	for _, name := range []string{"list", "splay", "treap"} {
		r := newTester(t, name)
		r.add(5, op(api.DictPut, 1, 10))
		r.add(9, op(api.DictRemove, 1))
		if res, err := r.line.Query(7, op(api.DictGet, 1)); res.N != 10 || res.Err != api.OK || err != api.OK {
			t.Error(res, err)
		}
		if res, err := r.line.Query(9, op(api.DictGet, 1)); res.N != 0 || res.Err != api.ErrNone || err != api.OK {
			t.Error(res, err)
		}
		r.add(3, op(api.DictPut, 1, 11))
		r.revoke(5)
		if res, err := r.line.Query(7, op(api.DictGet, 1)); res.N != 11 || res.Err != api.OK || err != api.OK {
			t.Error(res, err)
		}
		r.revoke(3)
		if l := r.line.Failures(); !slices.Equal(l, []int{9}) {
			t.Error(l)
		}
	}
}

// Errors come in their order, and change nothing.
func TestErrors(t *testing.T) {
	for _, name := range []string{"", "none", "List"} {
		if line, err := fullretro.New(name); line != nil || err != api.ErrName {
			t.Error(name, err)
		}
	}
	r := newTester(t, "gap")
	r.add(4, op(api.SeqInsert, 0, 5))
	for _, time := range []int{-1, 4, 6} {
		r.add(time, op(api.SeqInsert, 0))
		r.add(time, op(99))
		r.add(time, op(api.SeqGet, 0))
		r.add(time, op(api.SeqReverse, 0, 0))
		r.ask(time, op(api.SeqGet))
		r.ask(time, op(api.SeqInsert, 0, 1))
		r.ask(time, op(api.SeqGet, 0))
		r.check()
	}
	r.add(-1, op(api.SeqInsert, 0, 5))
	r.add(api.MaxTime+1, op(api.SeqInsert, 0, 5))
	r.add(4, op(api.SeqInsert, 0, 5))
	r.check()
	r = newTester(t, "bst")
	r.ask(3, op(api.DictRank, 1))
	r.ask(-3, op(api.DictRank, 1))
}

func TestSharing(t *testing.T) {
	r := newTester(t, "list")
	o := op(api.DictPut, 1, 2)
	r.add(1, o)
	o.Args[0] = 7
	_, ops := r.line.Ops()
	ops[0].Args[0] = 9
	s, _ := r.line.State(1)
	s.Rows[0][0] = 55
	s, _ = r.line.State(1)
	s.Rows[0][0] = 55
	r.check()
	r.ask(1, op(api.DictGet, 1))
	for i := range 20 {
		r.add(i+2, op(api.DictPut, i, i))
	}
	s, _ = r.line.State(16)
	s.Rows[0][0] = 55
	r.ask(16, op(api.DictGet, 1))
	r.ask(17, op(api.DictGet, 1))
}

func TestNil(t *testing.T) {
	var line *fullretro.Timeline
	for range 2 {
		if line.Add(-1, op(99)) != api.ErrArg {
			t.Error("Add")
		}
		if err := line.Revoke(0); line == nil && err != api.ErrArg || line != nil && err != api.ErrNone {
			t.Error(err)
		}
		if r, err := line.Query(0, op(1)); r.Err != api.OK || err != api.ErrArg {
			t.Error(r, err)
		}
		if s, err := line.State(0); s.Kind != 0 || err != api.ErrArg {
			t.Error(s, err)
		}
		times, ops := line.Ops()
		if line.Len() != 0 || times != nil || ops != nil || line.Failures() != nil || line.Replayed() != 0 || line.Checkpoints() != nil {
			t.Error("values")
		}
		line = &fullretro.Timeline{}
	}
}

package explore

import (
	"strconv"

	"heartwood/api"
	"heartwood/scheduler"
)

// classes joins equivalent schedules: each one leads to an earlier one of its class, or is the first one.
type classes struct {
	c     api.Code
	all   [][]int
	first []int
}

func (x *classes) find(i int) int {
	for x.first[i] != i {
		x.first[i] = x.first[x.first[i]]
		i = x.first[i]
	}
	return i
}

func (x *classes) union(i, j int) {
	i, j = x.find(i), x.find(j)
	x.first[max(i, j)] = min(i, j)
}

// part is a part of the schedules: those that have a thread at some place.
type part struct{ thread, from, to int }

// parts divides the schedules from from to to - 1, which have the same first threads, by the next one.
func (x *classes) parts(from, to, place int) []part {
	var l []part
	for i := from; i < to && place < len(x.all[i]); i++ {
		if thread := x.all[i][place]; len(l) == 0 || l[len(l)-1].thread != thread {
			l = append(l, part{thread, i, i + 1})
		} else {
			l[len(l)-1].to++
		}
	}
	return l
}

// join joins the schedules from from to to - 1 that become one another by exchanges of steps from a place on; the steps
// before it, which they share, have led to a state, which is changed. Great parts are left to the loop, so that few
// states are kept.
func (x *classes) join(s api.Threads, from, to, place int) {
	for to-from > 1 {
		l := x.parts(from, to, place)
		great := l[0]
		for i, a := range l {
			if a.to-a.from > great.to-great.from {
				great = a
			}
			for _, b := range l[:i] {
				x.exchange(s, a, b, place+1)
			}
		}
		for _, a := range l {
			if a != great {
				x.join(x.after(s, a.thread), a.from, a.to, place+1)
			}
		}
		scheduler.Step(x.c, &s, great.thread)
		from, to, place = great.from, great.to, place+1
	}
}

// after returns the state after steps of threads.
func (x *classes) after(s api.Threads, steps ...int) api.Threads {
	s = scheduler.Copied(s)
	for _, thread := range steps {
		scheduler.Step(x.c, &s, thread)
	}
	return s
}

// exchange joins the schedules in which steps of two threads follow one another, if these can be exchanged. What follows
// them is the same then, in the same order.
func (x *classes) exchange(s api.Threads, a, b part, place int) {
	if work(x.after(s, a.thread, b.thread)) != work(x.after(s, b.thread, a.thread)) {
		return
	}
	first, second := x.with(a, b.thread, place), x.with(b, a.thread, place)
	for i := range first.to - first.from {
		x.union(first.from+i, second.from+i)
	}
}

// with returns those of a part that have a thread at a place.
func (x *classes) with(a part, thread, place int) part {
	for _, p := range x.parts(a.from, a.to, place) {
		if p.thread == thread {
			return p
		}
	}
	return part{}
}

// work returns a text that tells all of a state but when calls began and ended. Of the calls that are to be done it has
// the number, since states of one exploration have the same ones.
func work(s api.Threads) string {
	var b []byte
	add := func(l ...int) {
		for _, n := range l {
			b = strconv.AppendInt(b, int64(n), 10)
			b = append(b, ' ')
		}
		b = append(b, ';')
	}
	add(s.Mem.Globals...)
	for _, n := range s.Mem.Nodes {
		add(n.Type)
		add(n.F...)
	}
	for thread, m := range s.Running {
		q := m.Request
		add(len(s.Calls[thread]), len(s.Results[thread]), len(m.Frames), s.Nodes[thread], m.Fuel, m.Compares, m.Idle, q.Kind, q.Node, q.Field, q.Value, int(q.Fault))
		for _, f := range m.Frames {
			add(f.Func, f.At)
			add(f.Locals...)
			add(f.Stack...)
		}
		for _, o := range s.Results[thread] {
			add(int(o.Fault), o.Value, o.Cost.Compares, o.Cost.Nodes, o.Cost.Blocks)
		}
	}
	return string(b)
}
